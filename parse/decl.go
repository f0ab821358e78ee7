package parse

import (
	"slices"

	"hammock/api"
	"hammock/token"
	"hammock/tree"
)

func (p *parser) program() []tree.Decl {
	return lines(p, 0, func() bool { return p.here().Kind == token.End }, p.topDecl)
}

func (p *parser) topDecl() tree.Decl {
	if p.is("data") {
		return p.data()
	}
	return p.decl()
}

func (p *parser) data() tree.Decl {
	p.want("data")
	con := p.con()
	vars := p.vars()
	p.want("=")
	cons := parted(p, api.MaxCons, "|", p.cons)
	return tree.Decl{Kind: tree.DData, At: con.At, Name: con.Text, Vars: vars, Cons: cons}
}

// vars: a data's names, none of which stands twice.
func (p *parser) vars() []string {
	var l []string
	for p.here().Kind == token.Name {
		switch {
		case slices.Contains(l, p.here().Text):
			p.fail(api.ErrWord)
		case len(l) == api.MaxParts:
			p.fail(api.ErrSize)
		case p.isAny():
			p.fail(api.ErrWord)
		default:
			l = append(l, p.take().Text)
		}
	}
	return l
}

func (p *parser) cons() tree.Cons {
	con := p.con()
	return tree.Cons{At: con.At, Name: con.Text, Args: p.atypes()}
}

func (p *parser) con() token.Token { return p.must(p.here().Kind == token.Con) }

// decl: a DSig or a DDef.
func (p *parser) decl() tree.Decl {
	name := p.must(p.isName())
	d := tree.Decl{Kind: tree.DDef, At: name.At, Name: name.Text}
	if p.skip("::") {
		d.Kind, d.Type = tree.DSig, p.typ()
		return d
	}
	d.Pats = row(p, api.MaxParts, p.apatReader)
	p.want("=")
	d.Body = p.expr()
	return d
}
