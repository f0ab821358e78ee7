package names

import (
	"slices"
	"strings"
	"testing"

	"hammock/api"
	"hammock/parse"
	"hammock/tree"
)

// P602: Free, Names, Builtin, Arity.

func expr(t *testing.T, s string) tree.Expr {
	t.Helper()
	e, f := parse.Expr(s)
	if f.E != api.OK {
		t.Fatalf("%q: %v", s, f)
	}
	return e
}

func TestFree(t *testing.T) {
	for s, want := range map[string]string{
		"x":                              "x",
		"b a b c":                        "a b c",
		"z (y' y _y y1) yy":              "_y y y' y1 yy z",
		"1 'x' \"y\"":                    "",
		"A : True":                       "",
		"1 + 2 ++ b":                     "+ ++ b",
		"(+) ord":                        "+ ord",
		`\x -> x`:                        "",
		`\x -> x y`:                      "y",
		`x (\x -> x)`:                    "x",
		`\x (y : A z _) -> x y z u v`:    "u v",
		`\x -> \y -> x y z`:              "z",
		`(\x -> x y) (\y -> x y)`:        "x y",
		"if a then b else c":             "a b c",
		"if a then a else a":             "a",
		"let { } in x":                   "x",
		"let { x = x; } in x":            "",
		"let { x = y; } in x z":          "y z",
		"let { x = y; y = x; } in z":     "z",
		"let { f x y = x z f; } in f x":  "x z",
		"let { f x = x; f y = x; } in 1": "x",
		"let { f x = y; g y = x; } in 1": "x y",
		"let { f :: a -> B; } in f":      "f",
		"let { f :: a -> b; f = a; } in let { a = f; } in a b c":            "a b c",
		"case x of { y -> z; }":                                             "x z",
		"case x of { x -> x; y -> y; }":                                     "x",
		"case x of { y -> y; z -> y; }":                                     "x y",
		"case a of { x : [y] -> x y z; C 1 'c' \"d\" -> c d; }":             "a c d z",
		`case a of { x -> \y -> let { z = x y u; } in z; }`:                 "a u",
		`let { f x = case x of { f -> f; }; } in \f -> f x`:                 "x",
		`\x -> let { y = x + z; } in case q of { a : _ -> a y w; _ -> y; }`: "+ q w z",
	} {
		if got := Free(expr(t, s)); !slices.Equal(got, strings.Fields(want)) {
			t.Errorf("%q: %q, not %q", s, got, want)
		}
	}
}

// Each list counts, whatever the Kind is.
func TestFreeOfAnyExpression(t *testing.T) {
	name := func(s string, more ...tree.Expr) tree.Expr {
		return tree.Expr{Kind: tree.EName, Name: s, Args: more}
	}
	alts := func(p tree.Pat, body tree.Expr) []tree.Alt { return []tree.Alt{{Pat: p, Body: body}} }
	clause := func(kind int, name string, body tree.Expr, pats ...tree.Pat) tree.Decl {
		return tree.Decl{Kind: kind, Name: name, Pats: pats, Body: body}
	}
	x, y := bind("x", 0), bind("y", 0)
	for i, c := range []struct {
		e    tree.Expr
		want string
	}{
		{tree.Expr{}, ""},
		{tree.Expr{Name: "x"}, ""},
		{tree.Expr{Kind: tree.ECon, Name: "x"}, ""},
		{tree.Expr{Kind: tree.EText, Name: "x"}, ""},
		{tree.Expr{Kind: -1, Name: "x"}, ""},
		{tree.Expr{Kind: 11, Name: "x", Args: []tree.Expr{name("y")}}, "y"},
		{name("X"), "X"},
		{name(":"), ":"},
		{name("x", name("z"), name("y", name("a"))), "a x y z"},
		{tree.Expr{Kind: tree.EName, Name: "x", Pats: []tree.Pat{x}}, ""},
		{tree.Expr{Kind: tree.EName, Name: "x", Decls: []tree.Decl{clause(3, "x", name("y"))}}, "y"},
		{tree.Expr{Kind: tree.EInt, Pats: []tree.Pat{x}, Args: []tree.Expr{name("x"), name("y")}}, "y"},
		{tree.Expr{Pats: []tree.Pat{x}, Alts: alts(y, name("x", name("y")))}, "x"},
		{tree.Expr{Decls: []tree.Decl{clause(3, "x", name("y"))}, Alts: alts(y, name("x", name("y")))}, "x y"},
		{tree.Expr{Pats: []tree.Pat{x}, Decls: []tree.Decl{clause(3, "z", name("x", name("y"), name("z")), y)}}, ""},
		{tree.Expr{Decls: []tree.Decl{clause(3, "z", name("x"), y)}, Args: []tree.Expr{name("y")}}, "x y"},
		{tree.Expr{Decls: []tree.Decl{clause(1, "x", name("a")), clause(2, "y", name("b")), clause(4, "z", name("c"))}, Args: []tree.Expr{name("x", name("y"), name("z"))}}, "x y z"},
		{tree.Expr{Pats: []tree.Pat{{Kind: tree.PStr, Name: "x", Args: []tree.Pat{y}}, {Name: "z"}}, Args: []tree.Expr{name("x", name("y"), name("z"))}}, "x y z"},
		{tree.Expr{Pats: []tree.Pat{x, {Kind: tree.PMake, Args: []tree.Pat{x, y}}}, Args: []tree.Expr{name("x", name("y"), name("z"))}}, "z"},
		{tree.Expr{Kind: tree.ELam, Pats: []tree.Pat{bind("+", 0), bind("X", 0)}, Args: []tree.Expr{name("+", name("X"), name("-"))}}, "-"},
	} {
		if got := Free(c.e); !slices.Equal(got, strings.Fields(c.want)) {
			t.Errorf("%d: %q, not %q", i, got, c.want)
		}
	}
	if got := Free(name("", name("\xff"), name("\x00"))); !slices.Equal(got, []string{"", "\x00", "\xff"}) {
		t.Errorf("%q", got)
	}
}

func TestFreeOfRandomExpressions(t *testing.T) {
	for i := range int64(10000) {
		m := newMaker(i, 5)
		e := m.any(int(i % 4))
		if i%2 == 0 {
			e = m.expr(int(i%5), strings.Fields("f g h x y z + ord"))
		}
		if got := Free(e); !slices.Equal(got, rising(modelFree(e))) {
			t.Fatalf("%v: %q", e, got)
		}
	}
}

func TestNames(t *testing.T) {
	for s, want := range map[string]string{
		"":                                       "",
		"data T = A;":                            "",
		"f :: Int;":                              "",
		"f = 1;":                                 "f",
		"b = 1; a = 2; c = 3;":                   "b a c",
		"b 0 = 1; b 1 = 2; a = 3; b = 4;":        "b a",
		"a :: Int; data T = B; b = 1; a = 2;":    "b a",
		"f x = let { y = z; } in \\u -> v; g=1;": "f g",
	} {
		if got := Names(program(t, s)); !slices.Equal(got, strings.Fields(want)) {
			t.Errorf("%q: %q", s, got)
		}
	}
	l := []tree.Decl{{Kind: 3, Name: "X"}, {Kind: 4, Name: "a"}, {Kind: 3}, {Kind: 0, Name: "b"}, {Kind: 3, Name: "+"}, {Kind: 3}, {Kind: -3, Name: "c"}}
	if got := Names(l); !slices.Equal(got, []string{"X", "", "+"}) {
		t.Errorf("%q", got)
	}
	for i := range int64(1000) {
		l := newMaker(i, 3).program(0, modelBuiltin())
		all := modelNames(l)
		var want []string
		for _, name := range all {
			if !slices.Contains(want, name) {
				want = append(want, name)
			}
		}
		if got := Names(l); !slices.Equal(got, want) {
			t.Fatalf("%v: %q, not %q", l, got, want)
		}
	}
}

func TestBuiltin(t *testing.T) {
	for _, name := range modelBuiltin() {
		if !Builtin(name) {
			t.Error(name)
		}
	}
	for _, name := range strings.Split("=,|,->,\\,::,:,.,,Int,Char,Bool,[],True,False,Ord,or,ord ,chrs,f,_,+ +,+++,===,!,&,(+),let,not,map", ",") {
		if Builtin(name) {
			t.Errorf("%q", name)
		}
	}
	if Builtin(",") || Builtin(strings.Repeat("+", 1<<20)) {
		t.Error("others")
	}
}

func TestArity(t *testing.T) {
	const none = -1
	l := program(t, "data T a = A | B a (T Int) | C Int; f = A; data U = A Int | True Int | D Int Int Int | B; g :: E;")
	l = append(l, tree.Decl{Kind: tree.DSig, Cons: []tree.Cons{{Name: "E"}}}, tree.Decl{Kind: tree.DDef, Cons: []tree.Cons{{Name: "F"}}},
		tree.Decl{Kind: 4, Cons: []tree.Cons{{Name: "G"}}}, tree.Decl{Kind: tree.DData, Cons: []tree.Cons{{Name: ":"}, {Name: "[]", Args: make([]tree.Type, 3)}, {Name: "+", Args: make([]tree.Type, 20)}, {}}})
	for con, want := range map[string]int{
		"True": 0, "False": 0, "[]": 0, ":": 2, "A": 0, "B": 2, "C": 1, "D": 3, "+": 20, "": 0,
		"T": none, "U": none, "E": none, "F": none, "G": none, "f": none, "Int": none, "Bool": none, "a": none, "a ": none,
	} {
		n, ok := Arity(con, l)
		if ok != (want != none) || n != max(want, 0) {
			t.Errorf("%q: %d, %v", con, n, ok)
		}
		if n, ok = Arity(con, nil); ok != slices.Contains([]string{"True", "False", "[]", ":"}, con) || ok && n != want || !ok && n != 0 {
			t.Errorf("%q of nothing: %d, %v", con, n, ok)
		}
	}
}

// P603.

func TestProgramsWithoutFaultsAreClosed(t *testing.T) {
	closed := 0
	for i := range int64(6000) {
		l := newMaker(i, int(i%3)*30).program(int(i%4), modelBuiltin())
		if Check(nil, l) != (api.Fault{}) {
			continue
		}
		closed++
		own := Names(l)
		for _, d := range l {
			for _, name := range Free(asLam(d)) {
				if !slices.Contains(own, name) && !Builtin(name) {
					t.Fatalf("%v: %q", l, name)
				}
			}
		}
	}
	if closed < 3000 {
		t.Errorf("%d have no fault", closed)
	}
}

// asLam: a clause as an ELam, with its patterns.
func asLam(d tree.Decl) tree.Expr {
	return tree.Expr{Kind: tree.ELam, Pats: d.Pats, Args: []tree.Expr{d.Body}}
}

// P604.

func TestFreeNamesAreThoseOfTheParts(t *testing.T) {
	kinds := map[int]int{}
	for i := range int64(10000) {
		e := newMaker(i, 4).expr(1+int(i%4), strings.Fields("f g h x y z + ord"))
		kinds[e.Kind]++
		set := map[string]bool{}
		put := func(e tree.Expr) {
			for _, name := range Free(e) {
				set[name] = true
			}
		}
		for _, x := range e.Args {
			put(x)
		}
		for _, a := range e.Alts {
			put(tree.Expr{Kind: tree.ELam, Pats: []tree.Pat{a.Pat}, Args: []tree.Expr{a.Body}})
		}
		for _, d := range e.Decls {
			if d.Kind == tree.DDef {
				put(asLam(d))
			}
		}
		without(set, slices.Concat(modelBinds(e.Pats...), modelNames(e.Decls)))
		if e.Kind == tree.EName {
			set[e.Name] = true
		}
		if got := Free(e); !slices.Equal(got, rising(set)) {
			t.Fatalf("%v: %q, not %q", e, got, rising(set))
		}
	}
	for kind := tree.EName; kind <= tree.ECase; kind++ {
		if kinds[kind] < 50 {
			t.Errorf("%d of Kind %d", kinds[kind], kind)
		}
	}
}
