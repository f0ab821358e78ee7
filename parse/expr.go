package parse

import (
	"slices"

	"hammock/api"
	"hammock/token"
	"hammock/tree"
)

func (p *parser) expr() tree.Expr { return within(p, p.bareExpr) }

func (p *parser) bareExpr() tree.Expr {
	if read := p.formReader(); read != nil {
		return read()
	}
	return p.run()
}

// formReader: what reads the form of expr that begins with the next token, if any does.
func (p *parser) formReader() func() tree.Expr {
	switch {
	case p.is(`\`):
		return p.lam
	case p.is("let"):
		return p.let
	case p.is("if"):
		return p.choice
	case p.is("case"):
		return p.cases
	}
	return nil
}

func (p *parser) lam() tree.Expr {
	e := tree.Expr{Kind: tree.ELam, At: p.take().At}
	e.Pats = someRow(p, api.MaxParts, p.apatReader)
	p.want("->")
	e.Args = []tree.Expr{p.expr()}
	return e
}

func (p *parser) let() tree.Expr {
	e := tree.Expr{Kind: tree.ELet, At: p.take().At}
	e.Decls = block(p, 0, p.decl)
	p.want("in")
	e.Args = []tree.Expr{p.expr()}
	return e
}

// choice: an EIf.
func (p *parser) choice() tree.Expr {
	at := p.take().At
	asked := p.expr()
	p.want("then")
	yes := p.expr()
	p.want("else")
	return tree.Expr{Kind: tree.EIf, At: at, Args: []tree.Expr{asked, yes, p.expr()}}
}

func (p *parser) cases() tree.Expr {
	e := tree.Expr{Kind: tree.ECase, At: p.take().At}
	e.Args = []tree.Expr{p.expr()}
	p.want("of")
	e.Alts = block(p, 1, p.alt)
	return e
}

func (p *parser) alt() tree.Alt {
	pat := p.pat()
	p.want("->")
	return tree.Alt{Pat: pat, Body: p.expr()}
}

// atomReader: what reads the atom that begins with the next token, if any does.
func (p *parser) atomReader() func() tree.Expr {
	switch p.here().Kind {
	case token.Con:
		return p.conAtom
	case token.Number:
		return p.number
	case token.Letter:
		return p.letter
	case token.Text:
		return p.text
	}
	switch {
	case p.isName():
		return p.name
	case p.is("("):
		return p.parens
	case p.is("["):
		return p.list
	}
	return nil
}

func (p *parser) name() tree.Expr {
	x := p.take()
	return tree.Expr{Kind: tree.EName, At: x.At, Name: x.Text}
}

func (p *parser) conAtom() tree.Expr {
	x := p.take()
	return tree.Expr{Kind: tree.ECon, At: x.At, Name: x.Text}
}

func (p *parser) number() tree.Expr {
	x := p.take()
	return tree.Expr{Kind: tree.EInt, At: x.At, N: x.N}
}

func (p *parser) letter() tree.Expr {
	x := p.take()
	return tree.Expr{Kind: tree.EChar, At: x.At, N: x.N}
}

func (p *parser) text() tree.Expr {
	x := p.take()
	return tree.Expr{Kind: tree.EText, At: x.At, Name: x.Text}
}

// parens: an expression, or an operator as a name.
func (p *parser) parens() tree.Expr {
	return enclosed(p, ")", func() tree.Expr {
		if isOperator(p.here()) {
			return operatorName(p.take())
		}
		return p.expr()
	})
}

func (p *parser) list() tree.Expr {
	at := p.here().At
	l := items(p, p.expr)
	all := tree.Expr{Kind: tree.ECon, At: at, Name: listCon}
	for _, item := range slices.Backward(l) {
		all = between(tree.Expr{Kind: tree.ECon, At: at, Name: headCon}, item, all)
	}
	return all
}

// call: atoms in a row.
func (p *parser) call() tree.Expr {
	l := someRow(p, api.MaxParts+1, p.atomReader)
	if len(l) == 0 {
		return tree.Expr{}
	}
	e := l[0]
	for _, given := range l[1:] {
		e = called(e.At, e, given)
	}
	return e
}

func called(at int, f, given tree.Expr) tree.Expr {
	return tree.Expr{Kind: tree.ECall, At: at, Args: []tree.Expr{f, given}}
}

// between: what an operator makes of what stands around it.
func between(operator, left, right tree.Expr) tree.Expr {
	return called(operator.At, called(operator.At, operator, left), right)
}
