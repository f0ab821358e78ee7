package print

import "hammock/tree"

const listCon = "[]"

// typ: bare.
func (p *printer) typ(t *tree.Type) {
	switch {
	case isFun(t):
		part(p, isFun, p.typ)(&t.Args[0])
		p.put(" -> ")
		p.typ(&t.Args[1])
	case isListType(t):
		p.put("[")
		p.typ(&t.Args[0])
		p.put("]")
	default:
		p.put(t.Name)
		p.atypes(t.Args)
	}
}

// atypes: an atom for each.
func (p *printer) atypes(l []tree.Type) { row(p, l, part(p, isLooseType, p.typ)) }

func isFun(t *tree.Type) bool { return t.Kind == tree.TFun }

func isListType(t *tree.Type) bool { return t.Kind == tree.TCon && t.Name == listCon }

// isLooseType: is it no atom?
func isLooseType(t *tree.Type) bool { return len(t.Args) > 0 && !isListType(t) }
