package parse

import (
	"slices"

	"hammock/api"
	"hammock/token"
	"hammock/tree"
)

const headCon = ":"

func (p *parser) pat() tree.Pat { return within(p, p.barePat) }

func (p *parser) barePat() tree.Pat {
	head := p.headPat()
	at := p.here().At
	if !p.skip(headCon) {
		return head
	}
	return aheadPat(at, head, p.pat())
}

// aheadPat: one pattern put ahead of another by the con of lists.
func aheadPat(at int, head, rest tree.Pat) tree.Pat {
	return tree.Pat{Kind: tree.PMake, At: at, Name: headCon, Args: []tree.Pat{head, rest}}
}

// headPat: a cpat.
func (p *parser) headPat() tree.Pat {
	if p.here().Kind != token.Con {
		return one(p, p.apatReader)
	}
	x := p.conPat()
	x.Args = row(p, api.MaxParts, p.apatReader)
	return x
}

// apatReader: what reads the apat that begins with the next token, if any does.
func (p *parser) apatReader() func() tree.Pat {
	switch p.here().Kind {
	case token.Name:
		return p.namePat
	case token.Number:
		return p.numberPat
	case token.Letter:
		return p.letterPat
	case token.Text:
		return p.textPat
	case token.Con:
		return p.conPat
	}
	switch {
	case p.is("("):
		return p.parensPat
	case p.is("["):
		return p.listPat
	}
	return nil
}

func (p *parser) namePat() tree.Pat {
	if p.isAny() {
		return tree.Pat{Kind: tree.PAny, At: p.take().At}
	}
	x := p.take()
	return tree.Pat{Kind: tree.PBind, At: x.At, Name: x.Text}
}

func (p *parser) numberPat() tree.Pat {
	x := p.take()
	return tree.Pat{Kind: tree.PNum, At: x.At, N: x.N}
}

func (p *parser) letterPat() tree.Pat {
	x := p.take()
	return tree.Pat{Kind: tree.PChr, At: x.At, N: x.N}
}

func (p *parser) textPat() tree.Pat {
	x := p.take()
	return tree.Pat{Kind: tree.PStr, At: x.At, Name: x.Text}
}

// conPat: without Args.
func (p *parser) conPat() tree.Pat {
	x := p.take()
	return tree.Pat{Kind: tree.PMake, At: x.At, Name: x.Text}
}

func (p *parser) parensPat() tree.Pat { return enclosed(p, ")", p.pat) }

func (p *parser) listPat() tree.Pat {
	at := p.here().At
	l := items(p, p.pat)
	all := tree.Pat{Kind: tree.PMake, At: at, Name: listCon}
	for _, item := range slices.Backward(l) {
		all = aheadPat(at, item, all)
	}
	return all
}
