package names

import (
	"hammock/api"
	"hammock/tree"
)

// Check: the fault of a program that stands at the least place.
func Check(outer, l []tree.Decl) api.Fault {
	if !tree.RightDecls(outer, true) || !tree.RightDecls(l, true) {
		return api.Fault{E: api.ErrArg}
	}
	c := checker{types: builtinTypes(), cons: builtinCons()}
	c.makes(outer, func(int) {})
	c.makes(l, func(at int) { c.fault(at, api.ErrTwice) })
	c.parts(l)
	c.values(outer, l)
	return c.least
}

// checker: knows the types, with their numbers of parameters, and the cons, with their numbers of parts.
type checker struct {
	types, cons made
	least       api.Fault
}

// fault: just the one at the least place, of these the one of the least number, is ever told.
func (c *checker) fault(at int, e api.Errno) {
	least := c.least
	if least.E == api.OK || at < least.At || at == least.At && e < least.E {
		c.least = api.Fault{At: at, E: e}
	}
}

// values: a program is like a let, behind which stands nothing.
func (c *checker) values(outer, l []tree.Decl) {
	known := made{}
	for _, name := range Names(outer) {
		known.add(name, 0)
	}
	for name, at := range uses(&tree.Expr{Kind: tree.ELet, Decls: l}, c.expr) {
		if !known.has(name) && !Builtin(name) {
			c.fault(at, api.ErrScope)
		}
	}
}

// expr: without the expressions within it.
func (c *checker) expr(e *tree.Expr) {
	switch e.Kind {
	case tree.ECon:
		if !c.cons.has(e.Name) {
			c.fault(e.At, api.ErrScope)
		}
	case tree.ELam:
		c.pats(e.Pats...)
	case tree.ELet:
		c.block(e.Decls)
	case tree.ECase:
		for i := range e.Alts {
			c.pats(e.Alts[i].Pat)
		}
	}
}

func (c *checker) pats(l ...tree.Pat) {
	left := made{}
	for i := range l {
		c.pat(&l[i], left)
	}
}

// pat: left has the names that stand further to the left.
func (c *checker) pat(p *tree.Pat, left made) {
	switch p.Kind {
	case tree.PBind:
		if !left.add(p.Name, 0) {
			c.fault(p.At, api.ErrTwice)
		}
	case tree.PMake:
		c.count(c.cons, p.Name, len(p.Args), p.At)
	}
	for i := range p.Args {
		c.pat(&p.Args[i], left)
	}
}

// count: is a type, or a con, known, and with that number of parameters, or parts?
func (c *checker) count(known made, name string, n, at int) {
	if !known.has(name) {
		c.fault(at, api.ErrScope)
	} else if known[name] != n {
		c.fault(at, api.ErrCount)
	}
}
