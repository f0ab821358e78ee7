package print

import (
	"slices"
	"strings"
	"testing"

	"hammock/api"
	"hammock/tree"
)

// P502: trees of which there is no text.

func wrong(t *testing.T, what any, e api.Errno, got string, errno api.Errno) {
	t.Helper()
	if got != "" || errno != e {
		t.Errorf("%.200v: %.50q, %d, not %d", what, got, errno, e)
	}
}

func TestTypesThatMayNotBe(t *testing.T) {
	a := tvar("a")
	for _, x := range []tree.Type{
		{}, {Kind: 4}, {Kind: -1, Name: "a"}, tvar(""), tvar("_"), tvar("A"), tvar("let"), tvar("+"), tvar("a b"),
		{Kind: tree.TVar, Name: "a", Args: []tree.Type{a}},
		tcon(""), tcon("a"), tcon(":"), tcon("[]"), tcon("[]", a, a), tcon("T", slices.Repeat([]tree.Type{a}, api.MaxParts+1)...),
		{Kind: tree.TFun}, {Kind: tree.TFun, Name: "->", Args: []tree.Type{a, a}}, {Kind: tree.TFun, Args: []tree.Type{a}}, {Kind: tree.TFun, Args: []tree.Type{a, a, a}},
	} {
		for _, x := range []tree.Type{x, tcon("[]", x), tcon("T", a, x), tfun(a, x), tfun(x, a)} {
			got, e := Type(x)
			wrong(t, x, api.ErrArg, got, e)
			got, e = Decls([]tree.Decl{def("f", name("f")), {Kind: tree.DSig, Name: "f", Type: x}})
			wrong(t, x, api.ErrArg, got, e)
		}
	}
}

func TestPatternsThatMayNotBe(t *testing.T) {
	x := bind("x")
	for _, p := range []tree.Pat{
		{}, {Kind: 7}, {Kind: -1}, {Kind: tree.PAny, Name: "_"}, {Kind: tree.PAny, N: 1}, bind(""), bind("_"), bind("X"), bind("of"), bind("+"),
		{Kind: tree.PNum, N: -1}, {Kind: tree.PChr, N: -1}, {Kind: tree.PChr, N: 256}, {Kind: tree.PStr, Name: strings.Repeat("a", api.MaxText+1)},
		pmake(""), pmake("c"), pmake(":"), pmake(":", x), pmake(":", x, x, x), pmake("[]", x), pmake("C", slices.Repeat([]tree.Pat{x}, api.MaxParts+1)...),
	} {
		for _, p := range []tree.Pat{p, pmake("C", x, p), pmake(":", p, x), pmake(":", x, p)} {
			got, e := Pat(p)
			wrong(t, p, api.ErrArg, got, e)
			got, e = Expr(lam(name("x"), x, p))
			wrong(t, p, api.ErrArg, got, e)
		}
	}
}

func TestExprsThatMayNotBe(t *testing.T) {
	x, alt := name("x"), tree.Alt{Pat: bind("x"), Body: name("x")}
	data := tree.Decl{Kind: tree.DData, Name: "T", Cons: []tree.Cons{{Name: "C"}}}
	for _, e := range []tree.Expr{
		{}, {Kind: 11}, {Kind: -1}, name(""), name("_"), name("X"), name("in"), name(":"), name("="), name("->"), name("::"), name("|"), name(`\`), name("."),
		con("c"), con(""), {Kind: tree.EInt, N: -1}, {Kind: tree.EChar, N: 256}, {Kind: tree.EText, Name: strings.Repeat("a", api.MaxText+1)},
		{Kind: tree.ECall}, {Kind: tree.ECall, Args: []tree.Expr{x}}, {Kind: tree.ECall, Args: []tree.Expr{x, x, x}},
		lam(x), {Kind: tree.ELam, Pats: []tree.Pat{bind("x")}}, {Kind: tree.ELet}, let(x, data), {Kind: tree.EIf, Args: []tree.Expr{x, x}}, cases(x), {Kind: tree.ECase, Alts: []tree.Alt{alt}},
	} {
		for _, e := range []tree.Expr{e, call(x, e), call(e, x), lam(e, bind("x")), let(e), let(x, def("f", e)), choice(x, x, e), cases(e, alt), cases(x, alt, tree.Alt{Pat: bind("x"), Body: e})} {
			got, errno := Expr(e)
			wrong(t, e, api.ErrArg, got, errno)
			got, errno = Decls([]tree.Decl{def("f", x), def("f", e)})
			wrong(t, e, api.ErrArg, got, errno)
		}
	}
}

func TestDeclsThatMayNotBe(t *testing.T) {
	good := def("f", name("x"))
	for _, d := range []tree.Decl{
		{}, {Kind: 4}, {Kind: -1}, def("", name("x")), def("_", name("x")), def("+", name("x")), {Kind: tree.DSig, Name: "f"}, {Kind: tree.DDef, Name: "f"},
		{Kind: tree.DData, Name: "T"}, {Kind: tree.DData, Name: "t", Cons: []tree.Cons{{Name: "C"}}}, {Kind: tree.DData, Name: "T", Cons: []tree.Cons{{Name: "c"}}},
		{Kind: tree.DData, Name: "T", Vars: []string{"a", "a"}, Cons: []tree.Cons{{Name: "C"}}}, {Kind: tree.DSig, Name: "f", Type: tvar("a"), Body: name("x")},
	} {
		got, e := Decls([]tree.Decl{good, d})
		wrong(t, d, api.ErrArg, got, e)
	}
	if got, e := Decls(slices.Repeat([]tree.Decl{good}, api.MaxDecls)); len(got) != len("f = x;\n")*api.MaxDecls || e != api.OK {
		t.Errorf("%q, %d", got, e)
	}
	got, e := Decls(slices.Repeat([]tree.Decl{good}, api.MaxDecls+1))
	wrong(t, "too many", api.ErrArg, got, e)
}

// nested: a leaf, and then what each way makes of it, deep - 1 times.
func nested[T any](deep int, leaf T, way func(T) T) T {
	for range deep - 1 {
		leaf = way(leaf)
	}
	return leaf
}

func TestDeepTrees(t *testing.T) {
	const most = 4 * api.MaxDeep
	for _, deep := range []int{most, most + 1, 100000} {
		want := api.OK
		if deep > most {
			want = api.ErrArg
		}
		parens := func(s string) string { return strings.Repeat(s, most-1) }
		l := nested(deep, tvar("a"), func(x tree.Type) tree.Type { return tcon("T", x) })
		if got, e := Type(l); e != want || e == 0 && got != "T "+strings.Repeat("(T ", most-2)+"a"+strings.Repeat(")", most-2) {
			t.Errorf("%d: %q, %d", deep, got, e)
		}
		p := nested(deep, bind("a"), func(x tree.Pat) tree.Pat { return pmake(":", bind("b"), x) })
		if got, e := Pat(p); e != want || e == 0 && got != parens("b : ")+"a" {
			t.Errorf("%d: %q, %d", deep, got, e)
		}
		f := nested(deep, name("a"), func(x tree.Expr) tree.Expr { return call(x, name("b")) })
		if got, e := Expr(f); e != want || e == 0 && got != "a"+parens(" b") {
			t.Errorf("%d: %q, %d", deep, got, e)
		}
		x := nested(deep, name("a"), func(x tree.Expr) tree.Expr { return let(name("b"), def("f", x)) })
		if got, e := Decls([]tree.Decl{def("f", x)}); e != want || e == 0 && got != "f = "+parens("let { f = ")+"a"+parens("; } in b")+";\n" {
			t.Errorf("%d: %q, %d", deep, got, e)
		}
	}
}

// split: numbers up to most that, with that much more for each, are total in all.
func split(total, more, most int) []int {
	n := (total + more + most - 1) / (more + most)
	l := make([]int, n)
	for i := range l {
		l[i] = total/n - more
		if i < total%n {
			l[i]++
		}
	}
	return l
}

// Trees of which the texts have that many bytes.

func longType(bytes int) tree.Type {
	var all tree.Type
	for i, args := range split(bytes+len(" -> "), len("T -> "), api.MaxParts*(1+api.MaxName)) {
		part := tcon("T")
		for _, n := range split(args, 1, api.MaxName) {
			part.Args = append(part.Args, tvar(strings.Repeat("a", n)))
		}
		if i == 0 {
			all = part
		} else {
			all = tfun(part, all)
		}
	}
	return all
}

func longPat(bytes int) tree.Pat {
	all := pmake("[]")
	for _, n := range split(bytes-len("[]"), len(`"" : `), api.MaxText) {
		all = pmake(":", tree.Pat{Kind: tree.PStr, Name: strings.Repeat("a", n)}, all)
	}
	return all
}

func longExpr(bytes int) tree.Expr {
	all := name("f")
	for _, n := range split(bytes-len("f"), len(` ""`), api.MaxText) {
		all = call(all, tree.Expr{Kind: tree.EText, Name: strings.Repeat("a", n)})
	}
	return all
}

func longDecls(bytes int) []tree.Decl {
	var l []tree.Decl
	for _, n := range split(bytes, len("f = \"\";\n"), api.MaxText) {
		l = append(l, def("f", tree.Expr{Kind: tree.EText, Name: strings.Repeat("a", n)}))
	}
	return l
}

func TestLongTexts(t *testing.T) {
	faces := map[string]func(bytes int) (string, api.Errno){
		"Type":  func(n int) (string, api.Errno) { return Type(longType(n)) },
		"Pat":   func(n int) (string, api.Errno) { return Pat(longPat(n)) },
		"Expr":  func(n int) (string, api.Errno) { return Expr(longExpr(n)) },
		"Decls": func(n int) (string, api.Errno) { return Decls(longDecls(n)) },
	}
	for face, print := range faces {
		for _, n := range []int{1000, api.MaxSource - 1, api.MaxSource, api.MaxSource + 1, api.MaxSource + 2, api.MaxSource + 5000} {
			got, e := print(n)
			switch {
			case n > api.MaxSource:
				wrong(t, face, api.ErrSize, got, e)
			case len(got) != n || e != api.OK:
				t.Errorf("%s of %d: %d bytes, %d", face, n, len(got), e)
			}
		}
	}
}

// Lists that are shared make texts that are far longer than all memory holds of the trees.
func TestFarTooLongTexts(t *testing.T) {
	x := nested(20, name("x"), func(x tree.Expr) tree.Expr { return call(x, x) })
	got, e := Expr(x)
	wrong(t, "calls", api.ErrSize, got, e)
	got, e = Decls([]tree.Decl{def("f", x)})
	wrong(t, "calls", api.ErrSize, got, e)
	got, e = Type(nested(20, tvar("a"), func(x tree.Type) tree.Type { return tfun(x, x) }))
	wrong(t, "functions", api.ErrSize, got, e)
	got, e = Pat(nested(20, bind("a"), func(x tree.Pat) tree.Pat { return pmake("C", x, x) }))
	wrong(t, "parts", api.ErrSize, got, e)
}

// What may not be is ErrArg, however long its text would be.
func TestLongTreesThatMayNotBe(t *testing.T) {
	const n = api.MaxSource + 1000
	got, e := Type(tfun(longType(n), tvar("_")))
	wrong(t, "Type", api.ErrArg, got, e)
	got, e = Pat(pmake(":", longPat(n), bind("_")))
	wrong(t, "Pat", api.ErrArg, got, e)
	got, e = Expr(call(longExpr(n), name("_")))
	wrong(t, "Expr", api.ErrArg, got, e)
	got, e = Decls(append(longDecls(n), tree.Decl{}))
	wrong(t, "Decls", api.ErrArg, got, e)
}
