package print

import "hammock/tree"

// program: a line feed stands behind the last line, too.
func (p *printer) program(l []tree.Decl) {
	for i := range l {
		p.decl(&l[i])
		p.put("\n")
	}
}

func (p *printer) decl(d *tree.Decl) {
	switch d.Kind {
	case tree.DData:
		p.data(d)
	case tree.DSig:
		p.put(d.Name)
		p.put(" :: ")
		p.typ(&d.Type)
	case tree.DDef:
		p.put(d.Name)
		row(p, d.Pats, p.apat())
		p.put(" = ")
		p.expr(&d.Body)
	}
	p.put(";")
}

func (p *printer) data(d *tree.Decl) {
	p.put("data ")
	p.put(d.Name)
	row(p, d.Vars, p.name)
	p.put(" = ")
	parted(p, d.Cons, " | ", p.cons)
}

func (p *printer) cons(c *tree.Cons) {
	p.put(c.Name)
	p.atypes(c.Args)
}
