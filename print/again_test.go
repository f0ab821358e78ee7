package print

import (
	"slices"
	"strings"
	"testing"

	"hammock/api"
	"hammock/parse"
	"hammock/token"
	"hammock/tree"
)

// face: one of the calls, and what reads what it prints.
type face[T any] struct {
	print func(T) (string, api.Errno)
	read  func(string) (T, api.Fault)
	same  func(a, b T) bool
}

func types() face[tree.Type] { return face[tree.Type]{Type, parse.Type, tree.SameType} }

func exprs() face[tree.Expr] { return face[tree.Expr]{Expr, parse.Expr, tree.SameExpr} }

func decls() face[[]tree.Decl] {
	return face[[]tree.Decl]{Decls, parse.Program, tree.SameDecls}
}

// pats: a pattern alone is no source, so that it is read as the one of a way of a case.
func pats() face[tree.Pat] {
	return face[tree.Pat]{Pat, readPat, tree.SamePat}
}

const (
	aheadOfPat  = "case x of { "
	behindOfPat = " -> y; }"
)

func readPat(s string) (tree.Pat, api.Fault) {
	e, f := parse.Expr(aheadOfPat + s + behindOfPat)
	if f.E != api.OK {
		return tree.Pat{}, api.Fault{At: f.At - len(aheadOfPat), E: f.E}
	}
	return e.Alts[0].Pat, f
}

// again: the text of a tree, and whether it is read as the same tree.
func (f face[T]) again(t *testing.T, x T) string {
	t.Helper()
	s, e := f.print(x)
	if e != api.OK {
		t.Fatalf("%v: %d", x, e)
	}
	if got, fault := f.read(s); fault.E != api.OK || !f.same(got, x) {
		t.Fatalf("%q: %v, %v, not %v", s, fault, got, x)
	}
	return s
}

// P503: random trees are read again as they are, and no parentheses or blanks are printed that the chapter does not ask for.

func TestRandomTypes(t *testing.T) { randomTrees(t, types(), maker.typ) }

func TestRandomPats(t *testing.T) { randomTrees(t, pats(), maker.pat) }

func TestRandomExprs(t *testing.T) { randomTrees(t, exprs(), maker.expr) }

func TestRandomDecls(t *testing.T) {
	randomTrees(t, decls(), func(m maker, deep int) []tree.Decl { return m.decls(deep, true) })
}

func randomTrees[T any](t *testing.T, f face[T], make func(maker, int) T) {
	for i := range 3000 {
		x := make(newMaker(int64(i)), i%5)
		s := f.again(t, x)
		l, fault := token.Scan(s)
		if fault.E != api.OK {
			t.Fatalf("%q: %v", s, fault)
		}
		if want := spaced(l[:len(l)-1]); s != want {
			t.Fatalf("%q, not %q", s, want)
		}
		if sign := infix(l); sign >= 0 {
			t.Fatalf("%q: an operator at %d", s, sign)
		}
		if i%7 == 0 {
			noneInVain(t, f, s, x)
		}
	}
}

func isWord(x token.Token, word string) bool {
	return x.Kind != token.Letter && x.Kind != token.Text && x.Text == word
}

// isOneOf: is it one of these words, parted by blanks?
func isOneOf(x token.Token, words string) bool {
	return slices.ContainsFunc(strings.Fields(words), func(w string) bool { return isWord(x, w) })
}

// spaced: tokens, with between each two what the chapter asks for.
func spaced(l []token.Token) string {
	var b strings.Builder
	braces := 0
	for i, x := range l {
		last := i == len(l)-1
		b.WriteString(token.Show(x))
		switch {
		case isWord(x, "{"):
			braces++
		case isWord(x, "}"):
			braces--
		}
		switch {
		case isWord(x, ";") && braces == 0:
			b.WriteByte('\n')
		case last || isOneOf(x, `( [ \`) || isOneOf(l[i+1], ") ] ;"):
		default:
			b.WriteByte(' ')
		}
	}
	return b.String()
}

// infix: the place of an operator that stands as one, though no pattern has it; below 0 without one.
func infix(l []token.Token) int {
	for i, x := range l {
		inParens := i > 0 && isWord(l[i-1], "(") && isWord(l[i+1], ")")
		if !inParens && isOneOf(x, "+ - * / % == /= < <= > >= && || ++ ,") {
			return x.At
		}
	}
	return -1
}

// noneInVain: without any two parentheses that belong together it is no longer read as the same; but an op has its own ones.
func noneInVain[T any](t *testing.T, f face[T], s string, x T) {
	t.Helper()
	l, _ := token.Scan(s)
	var open []int
	for i := range l {
		switch {
		case isWord(l[i], "("):
			open = append(open, l[i].At)
		case isWord(l[i], ")"):
			from := open[len(open)-1]
			open = open[:len(open)-1]
			if l[i-1].Kind == token.Op {
				continue
			}
			without := s[:from] + " " + s[from+1:l[i].At] + " " + s[l[i].At+1:]
			if got, fault := f.read(without); fault.E == api.OK && f.same(got, x) {
				t.Fatalf("%q is read as %q", without, s)
			}
		}
	}
}

// What is as deep, or as wide, as chapter 4 reads it, and what is more so.

func TestDeepestTrees(t *testing.T) {
	for _, deep := range []int{1, 2, api.MaxDeep - 1, api.MaxDeep, api.MaxDeep + 1, 2 * api.MaxDeep} {
		want := api.OK
		if deep > api.MaxDeep {
			want = api.ErrDeep
		}
		for _, way := range []func(tree.Type) tree.Type{
			func(x tree.Type) tree.Type { return tfun(tvar("a"), x) },
			func(x tree.Type) tree.Type { return tcon("[]", x) },
		} {
			ends(t, types(), nested(deep, tvar("a"), way), want)
		}
		for _, way := range []func(tree.Expr) tree.Expr{
			func(x tree.Expr) tree.Expr { return lam(x, bind("a")) },
			func(x tree.Expr) tree.Expr { return let(x) },
			func(x tree.Expr) tree.Expr { return choice(x, name("a"), name("a")) },
			func(x tree.Expr) tree.Expr { return cases(name("a"), tree.Alt{Pat: bind("a"), Body: x}) },
		} {
			ends(t, exprs(), nested(deep, name("b"), way), want)
		}
		// Each of these stands in parentheses, but the outermost one.
		given := func(x tree.Expr) tree.Expr { return call(name("a"), x) }
		ends(t, exprs(), nested(deep, call(name("a"), name("b")), given), want)
		ends(t, types(), nested(deep, tcon("T", tvar("a")), func(x tree.Type) tree.Type { return tcon("T", x) }), want)
	}
	// The expression around the pattern is one more.
	for deep, want := range map[int]api.Errno{api.MaxDeep - 1: api.OK, api.MaxDeep: api.ErrDeep} {
		ends(t, pats(), nested(deep, bind("a"), func(x tree.Pat) tree.Pat { return pmake(":", bind("a"), x) }), want)
	}
}

func TestWidestTrees(t *testing.T) {
	for wide, want := range map[int]api.Errno{api.MaxParts: api.OK, api.MaxParts + 1: api.ErrSize} {
		ends(t, exprs(), call(name("f"), slices.Repeat([]tree.Expr{name("x")}, wide)...), want)
		ends(t, exprs(), call(name("+"), slices.Repeat([]tree.Expr{name("x")}, wide)...), want)
	}
	ends(t, exprs(), lam(name("f"), slices.Repeat([]tree.Pat{bind("x")}, api.MaxParts)...), api.OK)
	ends(t, types(), tcon("T", slices.Repeat([]tree.Type{tvar("x")}, api.MaxParts)...), api.OK)
	ends(t, pats(), pmake("C", slices.Repeat([]tree.Pat{bind("x")}, api.MaxParts)...), api.OK)
	ends(t, decls(), slices.Repeat([]tree.Decl{def("f", name("x"), slices.Repeat([]tree.Pat{bind("x")}, api.MaxParts)...)}, api.MaxDecls), api.OK)
	data := tree.Decl{Kind: tree.DData, Name: "T", Cons: slices.Repeat([]tree.Cons{{Name: strings.Repeat("C", api.MaxName), Args: slices.Repeat([]tree.Type{tcon("T", tvar("a"))}, api.MaxParts)}}, api.MaxCons)}
	ends(t, decls(), slices.Repeat([]tree.Decl{data}, 5), api.OK)
	all := strings.Repeat("\x00", api.MaxText)
	ends(t, exprs(), tree.Expr{Kind: tree.EText, Name: all}, api.OK)
	ends(t, pats(), tree.Pat{Kind: tree.PStr, Name: all}, api.OK)
}

// ends: it is printed, and reading it ends so: as the same tree, if without a fault.
func ends[T any](t *testing.T, f face[T], x T, want api.Errno) {
	t.Helper()
	if want == api.OK {
		f.again(t, x)
		return
	}
	s, e := f.print(x)
	if e != api.OK {
		t.Errorf("%d", e)
	}
	if _, fault := f.read(s); fault.E != want {
		t.Errorf("%q: %v, not %d", s, fault, want)
	}
}

// P504: what is read, printed and read again is the same; printed once more, it is the same text.

func (f face[T]) settled(t *testing.T, source string) bool {
	t.Helper()
	x, fault := f.read(source)
	if fault.E != api.OK {
		return false
	}
	s := f.again(t, x)
	y, _ := f.read(s)
	if once, e := f.print(y); once != s || e != api.OK {
		t.Fatalf("%q: %q, %d, not %q", source, once, e, s)
	}
	return true
}

func TestRandomSources(t *testing.T) {
	settle(t, types(), maker.typeSource)
	settle(t, pats(), maker.patSource)
	settle(t, exprs(), maker.exprSource)
	settle(t, decls(), func(m maker, deep int) string { return m.declsSource(deep, true) })
}

func settle[T any](t *testing.T, f face[T], make func(maker, int) string) {
	t.Helper()
	good := 0
	const all = 3000
	for i := range all {
		if f.settled(t, make(newMaker(int64(i)), i%5)) {
			good++
		}
	}
	if good < all/2 {
		t.Errorf("%d are read", good)
	}
}

func TestSources(t *testing.T) {
	for _, s := range []string{
		"1 + 2 * 3", `map (\x -> x * x) (range 1 4)`, `take 3 (iterate (\x -> x * 2) 1)`, "0 - 5", `"a" ++ ['b']`,
		"Pair (Just 'x') True", "1 / 0", "head []", "let { x = x + 1; } in x", "fst (Pair 1 (head []))",
		"a && b || c && d == e : f ++ g", "a - b - c * d / e % f", "1 : 2 : [3, [4], []]", `a + \x -> x + let { } in if a then b else c`,
		"[" + strings.Repeat("a, ", api.MaxDeep-1) + "a]", strings.Repeat("a + ", api.MaxDeep-1) + "a", strings.Repeat("a : ", api.MaxDeep-1) + "a",
	} {
		if !exprs().settled(t, s) || !decls().settled(t, "main = "+s+";") || !decls().settled(t, "main = f; f = "+s+"; ") {
			t.Errorf("%q is not read", s)
		}
	}
	for _, s := range []string{"", " -- nothing\n", "data T a b = C a [b] (a -> b) | D;f :: T a b -> [a];f (C x _ [y, 'a']) \"b\" (z : _) = x;"} {
		if !decls().settled(t, s) {
			t.Errorf("%q is not read", s)
		}
	}
}

// P505: places, and whether a list of nothing is nil, change no text.

func TestSameTreesAreTheSameText(t *testing.T) {
	for i := range int64(1000) {
		m := newMaker(i)
		ty, p, e, l := m.typ(3), m.pat(3), m.expr(3), m.decls(2, true)
		sameText(t, types(), ty)
		sameText(t, pats(), p)
		sameText(t, exprs(), e)
		sameText(t, decls(), l)
	}
}

func sameText[T any](t *testing.T, f face[T], x T) {
	t.Helper()
	y := moved(x)
	a, e := f.print(x)
	b, g := f.print(y)
	if !f.same(x, y) || a != b || e != api.OK || g != api.OK {
		t.Fatalf("%q, %d, not %q, %d", b, g, a, e)
	}
}
