package parse

import (
	"math/rand"
	"reflect"
	"strings"

	"hammock/tree"
)

// maker: makes sources of words, at random, always the same ones, and tells the tree that each should be read as. At is how many words there are up to the one it is the place of; 0 where no place is told.
type maker struct {
	*rand.Rand
	words []string
}

func newMaker(seed int64) *maker { return &maker{Rand: rand.New(rand.NewSource(seed))} }

// put: writes words; how many there are with the first one of them.
func (m *maker) put(words ...string) int {
	m.words = append(m.words, words...)
	return len(m.words) - len(words) + 1
}

func (m *maker) of(words string) string {
	l := strings.Fields(words)
	return l[m.Intn(len(l))]
}

func (m *maker) chance(n int) bool { return m.Intn(n) == 0 }

// repeated: from least to most things made, a word between two.
func repeated[T any](m *maker, least, most int, between string, make func() T) []T {
	var l []T
	for i := range least + m.Intn(most-least+1) {
		if i > 0 && between != "" {
			m.put(between)
		}
		l = append(l, make())
	}
	return l
}

func (m *maker) program(deep int) []tree.Decl {
	return repeated(m, 0, 4, "", func() tree.Decl {
		if m.chance(3) {
			return m.data()
		}
		return m.decl(deep)
	})
}

func (m *maker) data() tree.Decl {
	m.put("data")
	d := tree.Decl{Kind: tree.DData, Name: m.of("T U")}
	d.At = m.put(d.Name)
	d.Vars = strings.Fields([]string{"", "a", "b", "a b", "b a"}[m.Intn(5)])
	m.put(d.Vars...)
	m.put("=")
	d.Cons = repeated(m, 1, 3, "|", func() tree.Cons {
		c := tree.Cons{Name: m.of("C D")}
		c.At = m.put(c.Name)
		c.Args = repeated(m, 0, 3, "", func() tree.Type { return m.atype(2) })
		return c
	})
	m.put(";")
	return d
}

func (m *maker) decl(deep int) tree.Decl {
	d := tree.Decl{Name: m.of("a b")}
	d.At = m.put(d.Name)
	if m.chance(3) {
		m.put("::")
		d.Kind, d.Type = tree.DSig, m.typ(deep)
	} else {
		d.Kind, d.Pats = tree.DDef, repeated(m, 0, 2, "", func() tree.Pat { return m.apat(2) })
		m.put("=")
		d.Body = m.expr(deep)
	}
	m.put(";")
	return d
}

func (m *maker) typ(deep int) tree.Type {
	left := m.atypeOrCon(deep)
	if deep == 0 || m.chance(2) {
		return left
	}
	at := m.put("->")
	return tree.Type{Kind: tree.TFun, At: at, Args: []tree.Type{left, m.typ(deep - 1)}}
}

func (m *maker) atypeOrCon(deep int) tree.Type {
	if deep == 0 || m.chance(2) {
		return m.atype(deep)
	}
	name := m.of("T U")
	at := m.put(name)
	return tree.Type{Kind: tree.TCon, At: at, Name: name, Args: repeated(m, 0, 3, "", func() tree.Type { return m.atype(deep - 1) })}
}

func (m *maker) atype(deep int) tree.Type {
	switch n := m.Intn(4); {
	case deep > 0 && n == 0:
		at := m.put("[")
		item := m.typ(deep - 1)
		m.put("]")
		return tree.Type{Kind: tree.TCon, At: at, Name: "[]", Args: []tree.Type{item}}
	case deep > 0 && n == 1:
		m.put("(")
		t := m.typ(deep - 1)
		m.put(")")
		return t
	case n == 2:
		name := m.of("T U")
		return tree.Type{Kind: tree.TCon, At: m.put(name), Name: name}
	}
	name := m.of("a b")
	return tree.Type{Kind: tree.TVar, At: m.put(name), Name: name}
}

func (m *maker) pat(deep int) tree.Pat {
	var head tree.Pat
	if deep > 0 && m.chance(2) {
		name := m.of("C D")
		head = tree.Pat{Kind: tree.PMake, At: m.put(name), Name: name}
		head.Args = repeated(m, 0, 3, "", func() tree.Pat { return m.apat(deep - 1) })
	} else {
		head = m.apat(deep)
	}
	if deep == 0 || m.chance(2) {
		return head
	}
	at := m.put(":")
	return tree.Pat{Kind: tree.PMake, At: at, Name: ":", Args: []tree.Pat{head, m.pat(deep - 1)}}
}

func (m *maker) apat(deep int) tree.Pat {
	switch n := m.Intn(10); {
	case n == 0:
		return tree.Pat{Kind: tree.PAny, At: m.put("_")}
	case n == 1:
		return tree.Pat{Kind: tree.PNum, At: m.put("07"), N: 7}
	case n == 2:
		return tree.Pat{Kind: tree.PChr, At: m.put(`'('`), N: '('}
	case n == 3:
		return tree.Pat{Kind: tree.PStr, At: m.put(`"a"`), Name: "a"}
	case n == 4:
		name := m.of("C D")
		return tree.Pat{Kind: tree.PMake, At: m.put(name), Name: name}
	case deep > 0 && n < 7:
		m.put("(")
		p := m.pat(deep - 1)
		m.put(")")
		return p
	case deep > 0 && n == 7:
		at := m.put("[")
		l := repeated(m, 0, 3, ",", func() tree.Pat { return m.pat(deep - 1) })
		m.put("]")
		all := tree.Pat{Kind: tree.PMake, At: at, Name: "[]"}
		for i := len(l) - 1; i >= 0; i-- {
			all = tree.Pat{Kind: tree.PMake, At: at, Name: ":", Args: []tree.Pat{l[i], all}}
		}
		return all
	}
	name := m.of("a b")
	return tree.Pat{Kind: tree.PBind, At: m.put(name), Name: name}
}

func (m *maker) expr(deep int) tree.Expr {
	if deep > 0 && m.chance(3) {
		return m.form(deep - 1)
	}
	return m.run(deep, 0, true, true)
}

func (m *maker) form(deep int) tree.Expr {
	e := tree.Expr{At: len(m.words) + 1}
	switch m.Intn(4) {
	case 0:
		e.Kind = tree.ELam
		m.put(`\`)
		e.Pats = repeated(m, 1, 3, "", func() tree.Pat { return m.apat(2) })
		m.put("->")
	case 1:
		e.Kind = tree.ELet
		m.put("let", "{")
		e.Decls = repeated(m, 0, 2, "", func() tree.Decl { return m.decl(deep) })
		m.put("}", "in")
	case 2:
		e.Kind = tree.EIf
		m.put("if")
		e.Args = []tree.Expr{m.expr(deep)}
		m.put("then")
		e.Args = append(e.Args, m.expr(deep))
		m.put("else")
	case 3:
		return m.cases(deep)
	}
	e.Args = append(e.Args, m.expr(deep))
	return e
}

func (m *maker) cases(deep int) tree.Expr {
	e := tree.Expr{Kind: tree.ECase, At: m.put("case")}
	e.Args = []tree.Expr{m.expr(deep)}
	m.put("of", "{")
	e.Alts = repeated(m, 1, 3, "", func() tree.Alt {
		p := m.pat(2)
		m.put("->")
		e := m.expr(deep)
		m.put(";")
		return tree.Alt{Pat: p, Body: e}
	})
	m.put("}")
	return e
}

// run: one of operators of that level or of tighter ones, which begins, or ends, the whole run.
func (m *maker) run(deep, level int, begins, ends bool) tree.Expr {
	rows := []string{"||", "&&", "== /= < <= > >=", ": ++", "+ -", "* / %"}
	if level == len(rows) {
		return m.operand(deep, begins, ends)
	}
	if deep == 0 || !m.chance(5) {
		return m.run(deep, level+1, begins, ends)
	}
	left, right := level+1, level
	switch level {
	case 2:
		right = level + 1
	case 4, 5:
		left, right = level, level+1
	}
	x := m.run(deep-1, left, begins, false)
	name := m.of(rows[level])
	at := m.put(name)
	operator := tree.Expr{Kind: tree.EName, At: at, Name: name}
	if name == ":" {
		operator.Kind = tree.ECon
	}
	return made(at, made(at, operator, x), m.run(deep-1, right, false, ends))
}

func made(at int, f, x tree.Expr) tree.Expr {
	return tree.Expr{Kind: tree.ECall, At: at, Args: []tree.Expr{f, x}}
}

func (m *maker) operand(deep int, begins, ends bool) tree.Expr {
	if deep > 0 && !begins && m.chance(4) {
		if ends {
			return m.form(deep - 1)
		}
		return m.cases(deep - 1)
	}
	e := m.atom(deep)
	for range m.Intn(2) * m.Intn(4) {
		e = made(e.At, e, m.atom(deep))
	}
	return e
}

func (m *maker) atom(deep int) tree.Expr {
	switch n := m.Intn(10); {
	case n == 0:
		return tree.Expr{Kind: tree.EInt, At: m.put("12"), N: 12}
	case n == 1:
		return tree.Expr{Kind: tree.EChar, At: m.put(`'\n'`), N: '\n'}
	case n == 2:
		return tree.Expr{Kind: tree.EText, At: m.put(`"let"`), Name: "let"}
	case n == 3:
		name := m.of("C D")
		return tree.Expr{Kind: tree.ECon, At: m.put(name), Name: name}
	case n == 4:
		m.put("(")
		name := m.of("|| && == /= < <= > >= ++ + - * / %")
		at := m.put(name)
		m.put(")")
		return tree.Expr{Kind: tree.EName, At: at, Name: name}
	case deep > 0 && n < 7:
		m.put("(")
		e := m.expr(deep - 1)
		m.put(")")
		return e
	case deep > 0 && n == 7:
		at := m.put("[")
		l := repeated(m, 0, 3, ",", func() tree.Expr { return m.expr(deep - 1) })
		m.put("]")
		all := tree.Expr{Kind: tree.ECon, At: at, Name: "[]"}
		for i := len(l) - 1; i >= 0; i-- {
			all = made(at, made(at, tree.Expr{Kind: tree.ECon, At: at, Name: ":"}, l[i]), all)
		}
		return all
	}
	name := m.of("a b")
	return tree.Expr{Kind: tree.EName, At: m.put(name), Name: name}
}

// laid: the words as a source, a gap ahead of each and behind the last one; the place of each word, and of the end.
func laid(words []string, gap func() string) (string, []int) {
	var b strings.Builder
	var places []int
	for _, w := range words {
		b.WriteString(gap())
		places = append(places, b.Len())
		b.WriteString(w)
	}
	b.WriteString(gap())
	return b.String(), append(places, b.Len())
}

func blank() string { return " " }

// gap: blanks and notes of which each parts any two words.
func (m *maker) gap() string {
	return []string{" ", "\n", "\t \r\n", " {- note -}", "{- -} ", " -- ; } )\n", " {- {- in -} -- -}\n"}[m.Intn(7)]
}

// setPlaces: puts the places of words where a maker has told how many words there are.
func setPlaces(pointer any, places []int) {
	eachValue(reflect.ValueOf(pointer).Elem(), func(v reflect.Value, name string) {
		if name == "At" && v.Int() > 0 {
			v.SetInt(int64(places[v.Int()-1]))
		}
	})
}
