package print

import (
	"math/rand"
	"strings"

	"hammock/tree"
)

// maker: makes trees that may be, and sources, at random, always the same ones.
type maker struct{ *rand.Rand }

func newMaker(seed int64) maker { return maker{rand.New(rand.NewSource(seed))} }

func (m maker) of(l ...string) string { return l[m.Intn(len(l))] }

// listOf: from least to most things made.
func listOf[T any](m maker, least, most int, f func() T) []T {
	l := make([]T, least+m.Intn(most-least+1))
	for i := range l {
		l[i] = f()
	}
	return l
}

func (m maker) lower() string { return m.of("a", "b", "x", "y'", "_z", "foo_1", "lets", "i", "n") }

func (m maker) upper() string { return m.of("A", "B'", "Just", "Pair_2") }

func (m maker) text() string {
	return m.of("", "a", "'", `"`, `\`, "\n\t\r", "\x00\xff", "-- {- ", `) -> ; "`, "let")
}

func (m maker) at() int { return m.Intn(1000) }

func (m maker) typ(deep int) tree.Type {
	part := func() tree.Type { return m.typ(deep - 1) }
	if deep == 0 {
		if m.Intn(2) == 0 {
			return tree.Type{Kind: tree.TCon, At: m.at(), Name: m.upper()}
		}
		return tree.Type{Kind: tree.TVar, At: m.at(), Name: m.lower()}
	}
	switch m.Intn(4) {
	case 0:
		return part()
	case 1:
		return tree.Type{Kind: tree.TFun, At: m.at(), Args: listOf(m, 2, 2, part)}
	case 2:
		return tree.Type{Kind: tree.TCon, At: m.at(), Name: "[]", Args: listOf(m, 1, 1, part)}
	}
	return tree.Type{Kind: tree.TCon, At: m.at(), Name: m.upper(), Args: listOf(m, 0, 3, part)}
}

func (m maker) pat(deep int) tree.Pat {
	part := func() tree.Pat { return m.pat(deep - 1) }
	if deep > 0 {
		switch m.Intn(3) {
		case 0:
			return tree.Pat{Kind: tree.PMake, At: m.at(), Name: ":", Args: listOf(m, 2, 2, part)}
		case 1:
			return tree.Pat{Kind: tree.PMake, At: m.at(), Name: m.upper(), Args: listOf(m, 0, 3, part)}
		}
		return part()
	}
	switch p := (tree.Pat{Kind: 1 + m.Intn(6), At: m.at()}); p.Kind {
	case tree.PBind:
		p.Name = m.lower()
		return p
	case tree.PNum:
		p.N = m.Int() >> m.Intn(63)
		return p
	case tree.PChr:
		p.N = m.Intn(256)
		return p
	case tree.PStr:
		p.Name = m.text()
		return p
	case tree.PMake:
		p.Name = m.of("[]", m.upper())
		return p
	default:
		return p
	}
}

func (m maker) expr(deep int) tree.Expr {
	part := func() tree.Expr { return m.expr(deep - 1) }
	pat := func() tree.Pat { return m.pat(m.Intn(3)) }
	if deep == 0 {
		return m.leaf()
	}
	e := tree.Expr{At: m.at()}
	switch m.Intn(8) {
	case 0:
		return part()
	case 1:
		e.Kind, e.Args, e.Pats = tree.ELam, listOf(m, 1, 1, part), listOf(m, 1, 3, pat)
	case 2:
		e.Kind, e.Args, e.Decls = tree.ELet, listOf(m, 1, 1, part), m.decls(deep-1, false)
	case 3:
		e.Kind, e.Args = tree.EIf, listOf(m, 3, 3, part)
	case 4:
		alt := func() tree.Alt { return tree.Alt{Pat: pat(), Body: part()} }
		e.Kind, e.Args, e.Alts = tree.ECase, listOf(m, 1, 1, part), listOf(m, 1, 3, alt)
	default:
		e.Kind, e.Args = tree.ECall, listOf(m, 2, 2, part)
	}
	return e
}

func (m maker) leaf() tree.Expr {
	e := tree.Expr{Kind: 1 + m.Intn(5), At: m.at()}
	switch e.Kind {
	case tree.EName:
		e.Name = m.of(m.lower(), "+", "-", "*", "/", "%", "==", "/=", "<", "<=", ">", ">=", "&&", "||", "++")
	case tree.ECon:
		e.Name = m.of(m.upper(), ":", "[]")
	case tree.EInt:
		e.N = m.Int() >> m.Intn(63)
	case tree.EChar:
		e.N = m.Intn(256)
	case tree.EText:
		e.Name = m.text()
	}
	return e
}

func (m maker) decls(deep int, top bool) []tree.Decl {
	typ := func() tree.Type { return m.typ(m.Intn(3)) }
	return listOf(m, 0, 3, func() tree.Decl {
		kind := m.Intn(4)
		if top && kind == tree.DData {
			cons := func() tree.Cons { return tree.Cons{At: m.at(), Name: m.upper(), Args: listOf(m, 0, 3, typ)} }
			vars := []string{"a", "b'", "_c"}[:m.Intn(4)]
			return tree.Decl{Kind: tree.DData, At: m.at(), Name: m.upper(), Vars: vars, Cons: listOf(m, 1, 3, cons)}
		}
		if kind == tree.DSig {
			return tree.Decl{Kind: tree.DSig, At: m.at(), Name: m.lower(), Type: typ()}
		}
		pat := func() tree.Pat { return m.pat(m.Intn(3)) }
		return tree.Decl{Kind: tree.DDef, At: m.at(), Name: m.lower(), Pats: listOf(m, 0, 3, pat), Body: m.expr(deep)}
	})
}

// Sources, as somebody may write them: some of them are none, since comparisons stand side by side.

func (m maker) gap() string { return m.of(" ", " ", "\n", "\t", " {- ) -} ", " -- ;\n") }

// words: with gaps between them.
func (m maker) words(l ...string) string {
	var b strings.Builder
	for _, s := range l {
		b.WriteString(s)
		b.WriteString(m.gap())
	}
	return b.String()
}

// some: from least to most parts, with gaps and something more between two.
func (m maker) some(least, most int, between string, f func() string) string {
	l := listOf(m, least, most, f)
	return strings.Join(l, m.words("", between))
}

func (m maker) typeSource(deep int) string {
	part := func() string { return m.typeSource(deep - 1) }
	if deep == 0 {
		return m.of(m.lower(), m.upper())
	}
	switch m.Intn(5) {
	case 0:
		return m.words(part(), "->", part())
	case 1:
		return m.words("(", part(), ")")
	case 2:
		return m.words("[", part(), "]")
	case 3:
		return m.words(m.upper(), m.some(0, 3, "", func() string { return m.words("(", part(), ")") }))
	}
	return part()
}

func (m maker) patSource(deep int) string {
	part := func() string { return m.patSource(deep - 1) }
	atoms := func(least int) string {
		return m.some(least, 3, "", func() string { return m.words("(", part(), ")") })
	}
	if deep == 0 {
		return m.of("_", m.lower(), m.upper(), "007", `'\x41'`, `"\x41'"`, "[]")
	}
	switch m.Intn(6) {
	case 0:
		return m.words("(", part(), ")", ":", part())
	case 1:
		return m.words("(", part(), ")")
	case 2:
		return m.words("[", m.some(0, 3, ",", part), "]")
	case 3:
		return m.words(m.upper(), atoms(0))
	}
	return part()
}

func (m maker) exprSource(deep int) string {
	part := func() string { return m.exprSource(deep - 1) }
	pat := func() string { return m.words("(", m.patSource(m.Intn(3)), ")") }
	if deep == 0 {
		return m.of(m.lower(), m.upper(), "0", "00120", `'\''`, `"\"\\"`, "[]", "(+)", "(:)", "(==)")
	}
	switch m.Intn(12) {
	case 0:
		return m.words(`\`, m.some(1, 3, "", pat), "->", part())
	case 1:
		return m.words("let", "{", m.declsSource(deep-1, false), "}", "in", part())
	case 2:
		return m.words("if", part(), "then", part(), "else", part())
	case 3:
		alt := func() string { return m.words(m.patSource(m.Intn(3)), "->", part(), ";") }
		return m.words("case", part(), "of", "{", m.some(1, 3, "", alt), "}")
	case 4:
		return m.words("[", m.some(0, 4, ",", part), "]")
	case 5:
		return m.words("(", part(), ")", m.some(0, 3, "", func() string { return m.exprSource(0) }))
	case 6:
		return m.words("f", "(", part(), ")", "(", part(), ")")
	case 7:
		return part()
	}
	return m.words("a", m.op(), m.exprSource(0), m.op(), "(", part(), ")", m.op(), part())
}

func (m maker) op() string {
	return m.of("+", "-", "*", "/", "%", "++", ":", ":", "&&", "||", "==", "<", ">=")
}

func (m maker) declsSource(deep int, top bool) string {
	return m.some(0, 3, "", func() string {
		kind := m.Intn(4)
		if top && kind == 0 {
			cons := func() string {
				return m.words(m.upper(), m.some(0, 3, "", func() string { return m.words("(", m.typeSource(2), ")") }))
			}
			return m.words("data", m.upper(), m.of("", "a", "b a"), "=", m.some(1, 3, "|", cons), ";")
		}
		if kind == 1 {
			return m.words(m.lower(), "::", m.typeSource(m.Intn(4)), ";")
		}
		pat := func() string { return m.words("(", m.patSource(m.Intn(3)), ")") }
		return m.words(m.lower(), m.some(0, 3, "", pat), "=", m.exprSource(deep), ";")
	})
}
