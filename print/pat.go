package print

import "hammock/tree"

const headCon = ":"

// pat: bare.
func (p *printer) pat(x *tree.Pat) {
	switch x.Kind {
	case tree.PAny:
		p.put("_")
	case tree.PBind:
		p.put(x.Name)
	case tree.PNum:
		p.number(x.N)
	case tree.PChr:
		p.letter(x.N)
	case tree.PStr:
		p.quoted(x.Name)
	case tree.PMake:
		p.conPat(x)
	}
}

// conPat: a PMake.
func (p *printer) conPat(x *tree.Pat) {
	if isAhead(x) {
		part(p, isAhead, p.pat)(&x.Args[0])
		p.put(" : ")
		p.pat(&x.Args[1])
		return
	}
	p.put(x.Name)
	row(p, x.Args, p.apat())
}

// apat: what writes a pattern as an atom.
func (p *printer) apat() func(*tree.Pat) { return part(p, isLoosePat, p.pat) }

// isAhead: one pattern put ahead of another?
func isAhead(x *tree.Pat) bool { return x.Kind == tree.PMake && x.Name == headCon }

// isLoosePat: is it no atom?
func isLoosePat(x *tree.Pat) bool { return len(x.Args) > 0 }
