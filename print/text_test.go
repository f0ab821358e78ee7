package print

import (
	"math"
	"strings"
	"testing"

	"hammock/api"
	"hammock/tree"
)

// P502: each kind of tree in each place where it may stand.

// sample: a tree, as it is printed bare.
type sample[T any] struct {
	x     T
	text  string
	loose bool // no atom
	// A function of types, a pattern made by :, or a call: where these stand to the left of their own kind, they are printed otherwise than what is as loose.
	special bool
}

// place: what is printed with a part in it.
type place[T any] struct {
	// around: the text, with a % where the part stands.
	around string
	print  func(part T) (string, api.Errno)
	parens func(sample[T]) bool
}

func never[T any](sample[T]) bool { return false }

func always[T any](s sample[T]) bool { return s.loose }

func onlySpecial[T any](s sample[T]) bool { return s.special }

func allButSpecial[T any](s sample[T]) bool { return s.loose && !s.special }

func eachPlace[T any](t *testing.T, samples []sample[T], places []place[T]) {
	t.Helper()
	for _, s := range samples {
		for _, p := range places {
			part := s.text
			if p.parens(s) {
				part = "(" + part + ")"
			}
			want := strings.ReplaceAll(p.around, "%", part)
			if got, e := p.print(s.x); got != want || e != api.OK {
				t.Errorf("%q, %d, not %q", got, e, want)
			}
		}
	}
}

func tvar(name string) tree.Type { return tree.Type{Kind: tree.TVar, Name: name} }

func tcon(name string, args ...tree.Type) tree.Type {
	return tree.Type{Kind: tree.TCon, Name: name, Args: args}
}

func tfun(a, b tree.Type) tree.Type {
	return tree.Type{Kind: tree.TFun, Args: []tree.Type{a, b}}
}

func TestTypes(t *testing.T) {
	a, b := tvar("a"), tvar("b'")
	samples := []sample[tree.Type]{
		{a, "a", false, false},
		{tvar("_a1"), "_a1", false, false},
		{tcon("Int"), "Int", false, false},
		{tcon("[]", a), "[a]", false, false},
		{tcon("[]", tcon("[]", b)), "[[b']]", false, false},
		{tcon("T", a), "T a", true, false},
		{tcon("T", a, tcon("U"), tcon("[]", a), tcon("V", b), tfun(a, b)), "T a U [a] (V b') (a -> b')", true, false},
		{tfun(a, b), "a -> b'", true, true},
		{tfun(a, tfun(b, a)), "a -> b' -> a", true, true},
		{tfun(tfun(a, b), a), "(a -> b') -> a", true, true},
	}
	oneDecl := func(d tree.Decl) (string, api.Errno) { return Decls([]tree.Decl{d}) }
	data := func(part tree.Type) (string, api.Errno) {
		cons := []tree.Cons{{Name: "C", Args: []tree.Type{part}}, {Name: "D", Args: []tree.Type{a, part, b}}, {Name: "E"}}
		return oneDecl(tree.Decl{Kind: tree.DData, Name: "T", Cons: cons})
	}
	eachPlace(t, samples, []place[tree.Type]{
		{"%", Type, never},
		{"[%]", func(x tree.Type) (string, api.Errno) { return Type(tcon("[]", x)) }, never},
		{"T %", func(x tree.Type) (string, api.Errno) { return Type(tcon("T", x)) }, always},
		{"T a % %", func(x tree.Type) (string, api.Errno) { return Type(tcon("T", a, x, x)) }, always},
		{"% -> a", func(x tree.Type) (string, api.Errno) { return Type(tfun(x, a)) }, onlySpecial},
		{"a -> %", func(x tree.Type) (string, api.Errno) { return Type(tfun(a, x)) }, never},
		{"f :: %;\n", func(x tree.Type) (string, api.Errno) {
			return oneDecl(tree.Decl{Kind: tree.DSig, Name: "f", Type: x})
		}, never},
		{"data T = C % | D a % b' | E;\n", data, always},
	})
}

func bind(name string) tree.Pat { return tree.Pat{Kind: tree.PBind, Name: name} }

func pmake(con string, args ...tree.Pat) tree.Pat {
	return tree.Pat{Kind: tree.PMake, Name: con, Args: args}
}

func TestPatterns(t *testing.T) {
	any, x, nothing := tree.Pat{Kind: tree.PAny}, bind("x"), pmake("[]")
	samples := []sample[tree.Pat]{
		{any, "_", false, false},
		{x, "x", false, false},
		{tree.Pat{Kind: tree.PNum}, "0", false, false},
		{tree.Pat{Kind: tree.PNum, N: math.MaxInt}, "9223372036854775807", false, false},
		{tree.Pat{Kind: tree.PChr, N: 'x'}, "'x'", false, false},
		{tree.Pat{Kind: tree.PChr, N: '\''}, `'\''`, false, false},
		{tree.Pat{Kind: tree.PChr, N: '"'}, `'"'`, false, false},
		{tree.Pat{Kind: tree.PChr, N: 0}, `'\x00'`, false, false},
		{tree.Pat{Kind: tree.PChr, N: 255}, `'\xff'`, false, false},
		{tree.Pat{Kind: tree.PStr}, `""`, false, false},
		{tree.Pat{Kind: tree.PStr, Name: "a'\"\\\n\t\x7f("}, `"a'\"\\\n\t\x7f("`, false, false},
		{nothing, "[]", false, false},
		{pmake("Nil"), "Nil", false, false},
		{pmake("C", x), "C x", true, false},
		{pmake("C", any, pmake("D"), pmake("D", x), pmake(":", x, nothing), nothing), "C _ D (D x) (x : []) []", true, false},
		{pmake(":", x, any), "x : _", true, true},
		{pmake(":", pmake("C", x), pmake("C", x)), "C x : C x", true, true},
		{pmake(":", pmake(":", x, any), pmake(":", x, nothing)), "(x : _) : x : []", true, true},
	}
	lam := func(l ...tree.Pat) (string, api.Errno) { return Expr(lam(name("y"), l...)) }
	alts := func(l ...tree.Pat) (string, api.Errno) {
		var alts []tree.Alt
		for _, p := range l {
			alts = append(alts, tree.Alt{Pat: p, Body: name("z")})
		}
		return Expr(tree.Expr{Kind: tree.ECase, Args: []tree.Expr{name("y")}, Alts: alts})
	}
	eachPlace(t, samples, []place[tree.Pat]{
		{"%", Pat, never},
		{"C %", func(p tree.Pat) (string, api.Errno) { return Pat(pmake("C", p)) }, always},
		{"C x % %", func(p tree.Pat) (string, api.Errno) { return Pat(pmake("C", x, p, p)) }, always},
		{"% : x", func(p tree.Pat) (string, api.Errno) { return Pat(pmake(":", p, x)) }, onlySpecial},
		{"x : %", func(p tree.Pat) (string, api.Errno) { return Pat(pmake(":", x, p)) }, never},
		{`\% -> y`, func(p tree.Pat) (string, api.Errno) { return lam(p) }, always},
		{`\% x % -> y`, func(p tree.Pat) (string, api.Errno) { return lam(p, x, p) }, always},
		{"case y of { % -> z; }", func(p tree.Pat) (string, api.Errno) { return alts(p) }, never},
		{"case y of { x -> z; % -> z; }", func(p tree.Pat) (string, api.Errno) { return alts(x, p) }, never},
		{"f % x % = y;\n", func(p tree.Pat) (string, api.Errno) {
			return Decls([]tree.Decl{def("f", name("y"), p, x, p)})
		}, always},
	})
}

func name(s string) tree.Expr { return tree.Expr{Kind: tree.EName, Name: s} }

func con(s string) tree.Expr { return tree.Expr{Kind: tree.ECon, Name: s} }

// call: of a function with one thing after the other.
func call(f tree.Expr, given ...tree.Expr) tree.Expr {
	for _, x := range given {
		f = tree.Expr{Kind: tree.ECall, Args: []tree.Expr{f, x}}
	}
	return f
}

func lam(body tree.Expr, l ...tree.Pat) tree.Expr {
	return tree.Expr{Kind: tree.ELam, Pats: l, Args: []tree.Expr{body}}
}

func let(body tree.Expr, l ...tree.Decl) tree.Expr {
	return tree.Expr{Kind: tree.ELet, Decls: l, Args: []tree.Expr{body}}
}

func choice(x, y, z tree.Expr) tree.Expr {
	return tree.Expr{Kind: tree.EIf, Args: []tree.Expr{x, y, z}}
}

func cases(x tree.Expr, l ...tree.Alt) tree.Expr {
	return tree.Expr{Kind: tree.ECase, Args: []tree.Expr{x}, Alts: l}
}

func def(name string, body tree.Expr, l ...tree.Pat) tree.Decl {
	return tree.Decl{Kind: tree.DDef, Name: name, Pats: l, Body: body}
}

func exprSamples() []sample[tree.Expr] {
	x, y, any := name("x"), name("y"), tree.Pat{Kind: tree.PAny}
	sig := tree.Decl{Kind: tree.DSig, Name: "f", Type: tcon("T")}
	l := []sample[tree.Expr]{
		{x, "x", false, false},
		{con("C'"), "C'", false, false},
		{con("[]"), "[]", false, false},
		{con(":"), "(:)", false, false},
		{tree.Expr{Kind: tree.EInt}, "0", false, false},
		{tree.Expr{Kind: tree.EInt, N: math.MaxInt}, "9223372036854775807", false, false},
		{tree.Expr{Kind: tree.EChar, N: '\''}, `'\''`, false, false},
		{tree.Expr{Kind: tree.EChar, N: '\n'}, `'\n'`, false, false},
		{tree.Expr{Kind: tree.EChar, N: 128}, `'\x80'`, false, false},
		{tree.Expr{Kind: tree.EText}, `""`, false, false},
		{tree.Expr{Kind: tree.EText, Name: "in '\"\n"}, `"in '\"\n"`, false, false},
		{call(x, y), "x y", true, true},
		{call(name("+"), x, call(name("*"), y, x)), "(+) x ((*) y x)", true, true},
		{call(con(":"), x, con("[]")), "(:) x []", true, true},
		{call(lam(x, any), y), `(\_ -> x) y`, true, true},
		{lam(x, any), `\_ -> x`, true, false},
		{let(x), "let { } in x", true, false},
		{let(x, sig, def("f", y)), "let { f :: T; f = y; } in x", true, false},
		{choice(x, y, x), "if x then y else x", true, false},
		{cases(x, tree.Alt{Pat: any, Body: y}), "case x of { _ -> y; }", true, false},
	}
	for _, op := range strings.Fields("+ - * / % == /= < <= > >= && || ++") {
		l = append(l, sample[tree.Expr]{name(op), "(" + op + ")", false, false})
	}
	return l
}

func TestExprs(t *testing.T) {
	x, any := name("x"), tree.Pat{Kind: tree.PAny}
	alt := func(body tree.Expr) tree.Alt { return tree.Alt{Pat: any, Body: body} }
	in := func(around string, parens func(sample[tree.Expr]) bool, within func(tree.Expr) tree.Expr) place[tree.Expr] {
		return place[tree.Expr]{around, func(e tree.Expr) (string, api.Errno) { return Expr(within(e)) }, parens}
	}
	type expr = tree.Expr
	eachPlace(t, exprSamples(), []place[tree.Expr]{
		{"%", Expr, never},
		in("% x", allButSpecial, func(e expr) expr { return call(e, x) }),
		in("% x x", allButSpecial, func(e expr) expr { return call(e, x, x) }),
		in("x %", always, func(e expr) expr { return call(x, e) }),
		in("x % %", always, func(e expr) expr { return call(x, e, e) }),
		in("(+) % %", always, func(e expr) expr { return call(name("+"), e, e) }),
		in("(:) % []", always, func(e expr) expr { return call(con(":"), e, con("[]")) }),
		in(`\_ -> %`, never, func(e expr) expr { return lam(e, any) }),
		in("let { } in %", never, func(e expr) expr { return let(e) }),
		in("let { f = %; } in %", never, func(e expr) expr { return let(e, def("f", e)) }),
		in("let { f = x; g _ = %; } in x", never, func(e expr) expr { return let(x, def("f", x), def("g", e, any)) }),
		in("if % then % else %", never, func(e expr) expr { return choice(e, e, e) }),
		in("case % of { _ -> x; }", never, func(e expr) expr { return cases(e, alt(x)) }),
		in("case x of { _ -> %; }", never, func(e expr) expr { return cases(x, alt(e)) }),
		in("case x of { _ -> x; _ -> %; }", never, func(e expr) expr { return cases(x, alt(x), alt(e)) }),
		{"f = %;\n", func(e expr) (string, api.Errno) { return Decls([]tree.Decl{def("f", e)}) }, never},
	})
}

func TestDecls(t *testing.T) {
	cons := []tree.Cons{{Name: "C", Args: []tree.Type{tvar("a"), tcon("T", tvar("a"))}}, {Name: "D"}}
	one := []tree.Decl{
		{Kind: tree.DData, Name: "T", Vars: []string{"a"}, Cons: cons},
		{Kind: tree.DSig, Name: "f", Type: tcon("T", tcon("Int"))},
		def("f", call(con("C"), tree.Expr{Kind: tree.EInt, N: 1}, con("D"))),
	}
	other := []tree.Decl{
		{Kind: tree.DData, Name: "U", Cons: []tree.Cons{{Name: "U"}}},
		{Kind: tree.DData, Name: "V'", Vars: []string{"a", "b'", "_c"}, Cons: []tree.Cons{{Name: "V"}, {Name: "W"}, {Name: "X"}}},
		def("f", name("x"), bind("x"), pmake("C"), pmake("C", bind("y"))),
	}
	for _, c := range []struct {
		l    []tree.Decl
		want string
	}{
		{nil, ""},
		{[]tree.Decl{}, ""},
		{one[:1], "data T a = C a (T a) | D;\n"},
		{one, "data T a = C a (T a) | D;\nf :: T Int;\nf = C 1 D;\n"},
		{other, "data U = U;\ndata V' a b' _c = V | W | X;\nf x C (C y) = x;\n"},
		{[]tree.Decl{def("a", name("a")), def("a", name("a"))}, "a = a;\na = a;\n"},
		{[]tree.Decl{def("f", let(name("g"), one[1:]...))}, "f = let { f :: T Int; f = C 1 D; } in g;\n"},
	} {
		if got, e := Decls(c.l); got != c.want || e != api.OK {
			t.Errorf("%q, %d, not %q", got, e, c.want)
		}
	}
}
