package names

import (
	"math/rand"
	"slices"
	"strings"

	"hammock/tree"
)

// maker: makes programs at random, always the same ones. All is known, and right, that stands in them, but one of so many (of none, if odd is 0).
type maker struct {
	*rand.Rand
	odd         int
	types, cons []thing
	newTypes    []string
	newCons     []string
}

// thing: a type and how many parameters it has, or a con and how many parts.
type thing struct {
	name string
	n    int
}

func newMaker(seed int64, odd int) *maker {
	return &maker{
		Rand:     rand.New(rand.NewSource(seed)),
		odd:      odd,
		types:    []thing{{"Int", 0}, {"Char", 0}, {"Bool", 0}, {"[]", 1}},
		cons:     []thing{{"True", 0}, {"False", 0}, {"[]", 0}, {":", 2}},
		newTypes: strings.Fields("T U V W True X Y Z"),
		newCons:  strings.Fields("A B C D E F G H I J K L M N O P Q R S"),
	}
}

func (m *maker) isOdd() bool { return m.odd > 0 && m.Intn(m.odd) == 0 }

// at: some are the same, and some below 0.
func (m *maker) at() int { return m.Intn(80) - 9 }

func pick[T any](m *maker, l []T) T { return l[m.Intn(len(l))] }

// listOf: from least to most things made.
func listOf[T any](m *maker, least, most int, f func() T) []T {
	l := make([]T, least+m.Intn(most-least+1))
	for i := range l {
		l[i] = f()
	}
	return l
}

// fresh: the next name of a list of new ones; an odd one is somebody's.
func (m *maker) fresh(names *[]string, there []thing) string {
	if m.isOdd() {
		if name := pick(m, there).name; name != "[]" && name != ":" {
			return name
		}
	}
	name := (*names)[0]
	*names = (*names)[1:]
	return name
}

// program: its names are known beside those that are known already.
func (m *maker) program(deep int, known []string) []tree.Decl {
	datas := listOf(m, 0, 3, func() tree.Decl {
		d := tree.Decl{Kind: tree.DData, At: m.at(), Name: m.fresh(&m.newTypes, m.types), Vars: strings.Fields(pick(m, []string{"", "a", "b a"}))}
		m.types = append(m.types, thing{d.Name, len(d.Vars)})
		return d
	})
	for i := range datas {
		d := &datas[i]
		d.Cons = listOf(m, 1, 3, func() tree.Cons {
			c := tree.Cons{At: m.at(), Name: m.fresh(&m.newCons, m.cons)}
			c.Args = listOf(m, 0, 3, func() tree.Type { return m.typ(2, d.Vars) })
			m.cons = append(m.cons, thing{c.Name, len(c.Args)})
			return c
		})
	}
	l, _ := m.block(deep, known)
	for _, d := range datas {
		l = slices.Insert(l, m.Intn(len(l)+1), d)
	}
	return l
}

func (m *maker) typ(deep int, vars []string) tree.Type {
	part := func() tree.Type { return m.typ(deep-1, vars) }
	t := tree.Type{Kind: tree.TVar, At: m.at()}
	switch {
	case m.isOdd():
		t.Name = pick(m, []string{"a", "b", "c"})
	case deep > 0 && m.Intn(3) == 0:
		t.Kind, t.Args = tree.TFun, listOf(m, 2, 2, part)
	case len(vars) > 0 && m.Intn(2) == 0:
		t.Name = pick(m, vars)
	default:
		from := m.types
		if deep == 0 {
			from = from[:3]
		}
		made := pick(m, from)
		t.Kind, t.Name = tree.TCon, made.name
		t.Args = listOf(m, made.n, made.n, part)
		if m.isOdd() && t.Name != "[]" {
			t.Name = pick(m, []string{"Unknown", "Int", "A", "T", "U"})
		}
	}
	return t
}

// block: its declarations, and what is known in it.
func (m *maker) block(deep int, known []string) ([]tree.Decl, []string) {
	names := strings.Fields("f g h x y ord")
	m.Shuffle(len(names), func(i, j int) { names[i], names[j] = names[j], names[i] })
	names = names[:m.Intn(4)]
	known = slices.Concat(known, names)
	var l, sigs []tree.Decl
	for _, name := range names {
		n := m.Intn(3)
		clause := func() tree.Decl {
			d := tree.Decl{Kind: tree.DDef, At: m.at(), Name: name, Pats: m.pats(n)}
			d.Body = m.expr(deep, slices.Concat(known, bound(d.Pats)))
			return d
		}
		l = append(l, listOf(m, 1, 1+min(n, 1), clause)...)
		if m.Intn(2) == 0 {
			sigs = append(sigs, tree.Decl{Kind: tree.DSig, At: m.at(), Name: name, Type: m.typ(2, []string{"a", "b", "z"})})
		}
	}
	for _, d := range sigs {
		l = slices.Insert(l, m.Intn(len(l)+1), d)
	}
	return m.oddBlock(l), known
}

// oddBlock: one declaration stands twice, or not at all, or at another's place.
func (m *maker) oddBlock(l []tree.Decl) []tree.Decl {
	if len(l) == 0 || !m.isOdd() {
		return l
	}
	i, j := m.Intn(len(l)), m.Intn(len(l))
	switch m.Intn(4) {
	case 0:
		return slices.Insert(l, j, l[i])
	case 1:
		return slices.Delete(l, i, i+1)
	case 2:
		l[i], l[j] = l[j], l[i]
	case 3:
		l[i].Name = l[j].Name
	}
	return l
}

func (m *maker) pats(n int) []tree.Pat {
	names := strings.Fields("a b c x y z f g _h i'")
	m.Shuffle(len(names), func(i, j int) { names[i], names[j] = names[j], names[i] })
	return listOf(m, n, n, func() tree.Pat { return m.pat(2, &names) })
}

// pat: names are those that do not stand further to the left.
func (m *maker) pat(deep int, names *[]string) tree.Pat {
	p := tree.Pat{Kind: 1 + m.Intn(6), At: m.at()}
	switch p.Kind {
	case tree.PBind:
		if p.Name = (*names)[0]; len(*names) > 1 && !m.isOdd() {
			*names = (*names)[1:]
		} else if len(*names) == 1 && m.odd == 0 {
			p.Kind, p.Name = tree.PAny, ""
		}
	case tree.PNum, tree.PChr:
		p.N = m.Intn(256)
	case tree.PStr:
		p.Name = pick(m, []string{"", "x", "text"})
	case tree.PMake:
		made := pick(m, m.cons)
		if deep == 0 {
			made = pick(m, m.cons[:3])
		}
		p.Name = made.name
		p.Args = listOf(m, made.n, made.n, func() tree.Pat { return m.pat(deep-1, names) })
		if m.isOdd() && p.Name != "[]" && p.Name != ":" {
			p.Name = pick(m, []string{"Unknown", "True", "T", "A", "B"})
		}
	}
	return p
}

func (m *maker) expr(deep int, known []string) tree.Expr {
	e := tree.Expr{Kind: 1 + m.Intn(5), At: m.at()}
	if deep > 0 {
		e.Kind = 5 + m.Intn(6)
	}
	inner := known
	switch e.Kind {
	case tree.EText:
		if deep > 0 {
			return m.expr(deep-1, known)
		}
		e.Name = "x"
	case tree.ELam:
		e.Pats = m.pats(1 + m.Intn(3))
		inner = slices.Concat(known, bound(e.Pats))
	case tree.ELet:
		e.Decls, inner = m.block(deep-1, known)
	case tree.ECase:
		e.Alts = listOf(m, 1, 3, func() tree.Alt {
			p := m.pats(1)
			return tree.Alt{Pat: p[0], Body: m.expr(deep-1, slices.Concat(known, bound(p)))}
		})
	default:
		m.leaf(&e, known)
	}
	n := [...]int{tree.ECall: 2, tree.ELam: 1, tree.ELet: 1, tree.EIf: 3, tree.ECase: 1}[e.Kind]
	e.Args = listOf(m, n, n, func() tree.Expr { return m.expr(deep-1, inner) })
	return e
}

func (m *maker) leaf(e *tree.Expr, known []string) {
	switch e.Kind {
	case tree.EName:
		if e.Name = pick(m, known); m.isOdd() {
			e.Name = pick(m, strings.Fields("f g h x y z a b c / unknown"))
		}
	case tree.ECon:
		if e.Name = pick(m, m.cons).name; m.isOdd() {
			e.Name = pick(m, []string{"Unknown", "A", "T", "B"})
		}
	case tree.EInt, tree.EChar:
		e.N = m.Intn(256)
	}
}

// any: an expression that need not be one that may be.
func (m *maker) any(deep int) tree.Expr {
	names := strings.Fields("a b c d e f + ord : X")
	part := func() tree.Expr { return m.any(deep - 1) }
	pat := func() tree.Pat { return m.anyPat(2, names) }
	e := tree.Expr{Kind: m.Intn(13) - 1, At: m.at(), Name: pick(m, names), N: m.Intn(3)}
	if m.Intn(2) == 0 {
		e.Kind = tree.EName
	}
	e.Pats = listOf(m, 0, 2, pat)
	if deep > 0 {
		e.Args = listOf(m, 0, 3, part)
		e.Alts = listOf(m, 0, 2, func() tree.Alt { return tree.Alt{Pat: pat(), Body: part()} })
		e.Decls = listOf(m, 0, 2, func() tree.Decl {
			return tree.Decl{Kind: m.Intn(5), At: m.at(), Name: pick(m, names), Pats: listOf(m, 0, 2, pat), Body: part()}
		})
	}
	return e
}

func (m *maker) anyPat(deep int, names []string) tree.Pat {
	p := tree.Pat{Kind: m.Intn(9) - 1, At: m.at(), Name: pick(m, names)}
	if deep > 0 {
		p.Args = listOf(m, 0, 2, func() tree.Pat { return m.anyPat(deep-1, names) })
	}
	return p
}
