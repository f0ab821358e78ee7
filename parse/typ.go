package parse

import (
	"hammock/api"
	"hammock/token"
	"hammock/tree"
)

const listCon = "[]"

func (p *parser) typ() tree.Type { return within(p, p.bareType) }

func (p *parser) bareType() tree.Type {
	left := p.partOfFun()
	at := p.here().At
	if !p.skip("->") {
		return left
	}
	return tree.Type{Kind: tree.TFun, At: at, Args: []tree.Type{left, p.typ()}}
}

// partOfFun: a btype.
func (p *parser) partOfFun() tree.Type {
	if p.here().Kind != token.Con {
		return one(p, p.atypeReader)
	}
	t := p.conType()
	t.Args = p.atypes()
	return t
}

// atypes: those in a row.
func (p *parser) atypes() []tree.Type { return row(p, api.MaxParts, p.atypeReader) }

// atypeReader: what reads the atype that begins with the next token, if any does.
func (p *parser) atypeReader() func() tree.Type {
	switch {
	case p.isName():
		return p.varType
	case p.here().Kind == token.Con:
		return p.conType
	case p.is("["):
		return p.listType
	case p.is("("):
		return p.parensType
	}
	return nil
}

func (p *parser) varType() tree.Type {
	x := p.take()
	return tree.Type{Kind: tree.TVar, At: x.At, Name: x.Text}
}

// conType: without Args.
func (p *parser) conType() tree.Type {
	x := p.take()
	return tree.Type{Kind: tree.TCon, At: x.At, Name: x.Text}
}

func (p *parser) listType() tree.Type {
	at := p.here().At
	item := enclosed(p, "]", p.typ)
	return tree.Type{Kind: tree.TCon, At: at, Name: listCon, Args: []tree.Type{item}}
}

func (p *parser) parensType() tree.Type { return enclosed(p, ")", p.typ) }
