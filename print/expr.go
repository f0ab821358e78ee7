package print

import (
	"hammock/token"
	"hammock/tree"
)

// expr: bare.
func (p *printer) expr(e *tree.Expr) {
	switch e.Kind {
	case tree.EName, tree.ECon:
		part(p, isSign, p.name)(&e.Name)
	case tree.EInt:
		p.number(e.N)
	case tree.EChar:
		p.letter(e.N)
	case tree.EText:
		p.quoted(e.Name)
	case tree.ECall:
		p.call(e)
	case tree.ELam:
		p.lam(e)
	case tree.ELet:
		p.let(e)
	case tree.EIf:
		p.choice(e)
	case tree.ECase:
		p.cases(e)
	}
}

func (p *printer) name(s *string) { p.put(*s) }

func isSign(s *string) bool { return token.Sign(*s) }

func (p *printer) call(e *tree.Expr) {
	// Calls go to the left, so that a call needs nothing around it where it is the function.
	needs := func(f *tree.Expr) bool { return f.Kind != tree.ECall && isLooseExpr(f) }
	part(p, needs, p.expr)(&e.Args[0])
	row(p, e.Args[1:], part(p, isLooseExpr, p.expr))
}

// isLooseExpr: is it no atom?
func isLooseExpr(e *tree.Expr) bool { return len(e.Args) > 0 }

func (p *printer) lam(e *tree.Expr) {
	p.put(`\`)
	parted(p, e.Pats, " ", p.apat())
	p.put(" -> ")
	p.expr(&e.Args[0])
}

func (p *printer) let(e *tree.Expr) {
	p.put("let {")
	row(p, e.Decls, p.decl)
	p.put(" } in ")
	p.expr(&e.Args[0])
}

// choice: an EIf.
func (p *printer) choice(e *tree.Expr) {
	p.put("if ")
	p.expr(&e.Args[0])
	p.put(" then ")
	p.expr(&e.Args[1])
	p.put(" else ")
	p.expr(&e.Args[2])
}

func (p *printer) cases(e *tree.Expr) {
	p.put("case ")
	p.expr(&e.Args[0])
	p.put(" of {")
	row(p, e.Alts, p.alt)
	p.put(" }")
}

func (p *printer) alt(a *tree.Alt) {
	p.pat(&a.Pat)
	p.put(" -> ")
	p.expr(&a.Body)
	p.put(";")
}
