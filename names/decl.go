package names

import (
	"slices"

	"hammock/api"
	"hammock/tree"
)

// makes: the types and cons of DDatas are known from now on; twice is told the places of those that were known.
func (c *checker) makes(l []tree.Decl, twice func(at int)) {
	for i := range l {
		d := &l[i]
		if d.Kind != tree.DData {
			continue
		}
		if !c.types.add(d.Name, len(d.Vars)) {
			twice(d.At)
		}
		for j := range d.Cons {
			if con := &d.Cons[j]; !c.cons.add(con.Name, len(con.Args)) {
				twice(con.At)
			}
		}
	}
}

// parts: the types of cons' parts.
func (c *checker) parts(l []tree.Decl) {
	for i := range l {
		d := &l[i]
		variable := func(t *tree.Type) {
			if !slices.Contains(d.Vars, t.Name) {
				c.fault(t.At, api.ErrScope)
			}
		}
		for _, con := range d.Cons {
			for j := range con.Args {
				c.typ(&con.Args[j], variable)
			}
		}
	}
}

// typ: what is done with its variables is told by a function, since a DData names them all and a DSig none.
func (c *checker) typ(t *tree.Type, variable func(*tree.Type)) {
	switch t.Kind {
	case tree.TVar:
		variable(t)
	case tree.TCon:
		c.count(c.types, t.Name, len(t.Args), t.At)
	}
	for i := range t.Args {
		c.typ(&t.Args[i], variable)
	}
}

func (c *checker) block(l []tree.Decl) {
	c.sigs(l)
	c.clauses(l)
}

func (c *checker) sigs(l []tree.Decl) {
	clauses, ahead := made{}, made{}
	for _, name := range Names(l) {
		clauses.add(name, 0)
	}
	for i := range l {
		d := &l[i]
		if d.Kind != tree.DSig {
			continue
		}
		if !ahead.add(d.Name, 0) {
			c.fault(d.At, api.ErrTwice)
		}
		if !clauses.has(d.Name) {
			c.fault(d.At, api.ErrMiss)
		}
		c.typ(&d.Type, func(*tree.Type) {})
	}
}

func (c *checker) clauses(l []tree.Decl) {
	ahead := made{}
	var last *tree.Decl
	for i := range l {
		d := &l[i]
		if d.Kind != tree.DDef {
			continue
		}
		c.pats(d.Pats...)
		isNext := last != nil && last.Name == d.Name
		switch isNew := ahead.add(d.Name, 0); {
		case isNew:
		case !isNext || len(d.Pats) == 0:
			c.fault(d.At, api.ErrTwice)
		case len(d.Pats) != len(last.Pats):
			c.fault(d.At, api.ErrCount)
		}
		last = d
	}
}
