package names

import (
	"slices"
	"strings"
	"testing"

	"hammock/api"
	"hammock/parse"
	"hammock/tree"
)

// P602: Check.

// fault: a source, with a ^ ahead of the fault's place, and what it is; no ^ where there is none.
type fault struct {
	source string
	e      api.Errno
}

func (f fault) want() api.Fault {
	if f.e == api.OK {
		return api.Fault{}
	}
	return api.Fault{At: strings.Index(f.source, "^"), E: f.e}
}

func program(t *testing.T, s string) []tree.Decl {
	t.Helper()
	l, f := parse.Program(strings.Replace(s, "^", "", 1))
	if f.E != api.OK {
		t.Fatalf("%q: %v", s, f)
	}
	return l
}

// check: behind an outer source.
func check(t *testing.T, outer string, faults []fault) {
	t.Helper()
	for _, f := range faults {
		if got := Check(program(t, outer), program(t, f.source)); got != f.want() || (f.e != api.OK) != strings.Contains(f.source, "^") {
			t.Errorf("%q: %v, not %v", f.source, got, f.want())
		}
	}
}

func TestFaultsOfDatas(t *testing.T) {
	check(t, "", []fault{
		{"", api.OK},
		{"data T = A; data U = B | C;", api.OK},
		{"data T = T;", api.OK},
		{"data True = Int; data A = B; data B = A;", api.OK},
		{"data ^Int = A;", api.ErrTwice},
		{"data ^Char = A;", api.ErrTwice},
		{"data ^Bool a = A;", api.ErrTwice},
		{"data T = A; data ^T = B;", api.ErrTwice},
		{"data T = A; data U = B; data ^T a = C;", api.ErrTwice},
		{"data T = A; f = 1; data ^T = B;", api.ErrTwice},
		{"data T = A | ^A;", api.ErrTwice},
		{"data T = A | B | C | ^A Int;", api.ErrTwice},
		{"data T = A; data U = ^A;", api.ErrTwice},
		{"data T = A; data U = B | ^A Int | C;", api.ErrTwice},
		{"data T = ^True;", api.ErrTwice},
		{"data T = A | ^False Int;", api.ErrTwice},
	})
}

func TestFaultsOfTypes(t *testing.T) {
	check(t, "", []fault{
		{"data T a b = A a (b -> [a]) (T b a) | B (U Int) Char; data U c = C c Bool [T c c];", api.OK},
		{"data T = A ^U;", api.ErrScope},
		{"data T = A | B Int ^U;", api.ErrScope},
		{"data T = A (Int -> ^A);", api.ErrScope},
		{"data T = A (^U -> Int);", api.ErrScope},
		{"data T = A [[^U]];", api.ErrScope},
		{"data T a = A (T (T ^U));", api.ErrScope},
		{"data T = A ^a;", api.ErrScope},
		{"data T a = A a | B ^b a;", api.ErrScope},
		{"data T a = A (a -> [^b]);", api.ErrScope},
		{"data T a = A (T ^b);", api.ErrScope},
		{"data T a = A a; data U b = B ^a;", api.ErrScope},
		{"data U b = B ^a; data T a = A a;", api.ErrScope},
		{"data T a = A ^T;", api.ErrCount},
		{"data T a = A (^T a a);", api.ErrCount},
		{"data T a = A [^T];", api.ErrCount},
		{"data T = A (^Int Int);", api.ErrCount},
		{"data T = A (^Char T);", api.ErrCount},
		{"data T = A [^Bool T];", api.ErrCount},
		{"data T a = A; data U = B (T ^T);", api.ErrCount},
		{"f :: Int -> a -> [b] -> T a; f = f; data T a = A;", api.OK},
		{"f :: ^T; f = f;", api.ErrScope},
		{"f :: a -> [^A]; f = f; data T = A;", api.ErrScope},
		{"f :: ^Int a; f = f;", api.ErrCount},
		{"f :: a -> ^T; f = f; data T a = A;", api.ErrCount},
		{"f = let { g :: T a -> b; g = g; } in 1; data T a = A;", api.OK},
		{"f = let { g :: ^U; g = g; } in 1;", api.ErrScope},
		{"f = let { g :: [^Int Int]; g = g; } in 1;", api.ErrCount},
	})
}

// Of types and cons that are made twice the first one counts.
func TestTheFirstOneCounts(t *testing.T) {
	check(t, "", []fault{
		{"f :: T Int; f = f; data T a = A; data ^T = B;", api.ErrTwice},
		{"f :: ^T; f = f; data T a = A; data T = B;", api.ErrCount},
		{"f :: Int; f = f; data ^Int a = A;", api.ErrTwice},
		{"f :: ^Int Int; f = f; data Int a = A;", api.ErrCount},
		{"f (A x) = x; data T = A Int | ^A;", api.ErrTwice},
		{"f ^A = 1; data T = A Int | A;", api.ErrCount},
		{"f ^A = 1; data T = A Int; data U = A;", api.ErrCount},
		{"f True = 1; data T = ^True Int;", api.ErrTwice},
		{"f (^True x) = 1; data T = True Int;", api.ErrCount},
		{"f :: U; f = B 1; data T = A; data ^T = B U; data U = C;", api.ErrTwice},
	})
	check(t, "data T a = A | B a; data T = D;", []fault{
		{"f :: T Int; f (B x) = D; data ^T = C;", api.ErrTwice},
		{"f :: ^T; f = f; data T = C;", api.ErrCount},
		{"f (B x) = x; data U = ^B;", api.ErrTwice},
		{"f ^B = 1; data U = B;", api.ErrCount},
	})
}

func TestFaultsOfSigs(t *testing.T) {
	check(t, "", []fault{
		{"f :: Int; f = 1;", api.OK},
		{"f = 1; f :: Int;", api.OK},
		{"f 0 = 1; f :: Int -> Int; f x = 2;", api.OK},
		{"f :: Int; g :: Int; g = 1; f = 1;", api.OK},
		{"f :: Int; f = let { f :: Int; f = 1; } in f;", api.OK},
		{"f :: Int; ^f :: Int; f = 1;", api.ErrTwice},
		{"f :: Int; f = 1; g = 2; ^f :: Char;", api.ErrTwice},
		{"^f :: Int;", api.ErrMiss},
		{"g = 1; ^f :: Int;", api.ErrMiss},
		{"^f :: Int; g = let { f = 1; } in f;", api.ErrMiss},
		{"^f :: Int; g f = f;", api.ErrMiss},
		{"f = let { g :: Int; g = 1; ^g :: Int; } in 1;", api.ErrTwice},
		{"f = let { ^g :: Int; } in 1;", api.ErrMiss},
		{"g = 1; f = let { ^g :: Int; } in g;", api.ErrMiss},
		{"g = ^f; f :: Int;", api.ErrScope},
		{"f = let { g :: Int; h = 1; ^g :: Int; g = 1; } in 1;", api.ErrTwice},
	})
}

func TestFaultsOfClauses(t *testing.T) {
	check(t, "", []fault{
		{"f 0 = 1; f 1 = 2; f x = x;", api.OK},
		{"f 0 = 1; data T = A; f x = x; g = 1;", api.OK},
		{"f x = let { f 0 = 1; f y = 2; } in f x;", api.OK},
		{"f = 1; ^f = 2;", api.ErrTwice},
		{"f x = 1; ^f = 2;", api.ErrTwice},
		{"f = 1; f :: Int; ^f = 2;", api.ErrTwice},
		{"f = 1; ^f x = 2;", api.ErrCount},
		{"f x = 1; ^f x y = 2;", api.ErrCount},
		{"f x y = 1; ^f x = 2; f x = 3;", api.ErrCount},
		{"f x = 1; g = 2; ^f x = 3;", api.ErrTwice},
		{"f x = 1; g = 2; ^f x y = 3;", api.ErrTwice},
		{"f x = 1; g = 2; h = 3; ^f = 4;", api.ErrTwice},
		{"f x = 1; f y = 2; g = 3; ^f x = 4; f y = 5;", api.ErrTwice},
		{"f = let { g = 1; ^g = 2; } in g;", api.ErrTwice},
		{"f = let { g x = 1; ^g x y = 2; } in g;", api.ErrCount},
		{"f = let { g x = 1; h = 2; ^g x = 3; } in g;", api.ErrTwice},
	})
	// The count is held against the clause right ahead, not against the first one.
	one, two := bind("x", 0), []tree.Pat{bind("x", 0), bind("y", 0)}
	l := []tree.Decl{def("f", 30, 1, one), def("f", 20, 1, two...), def("f", 10, 1, two...), def("f", 15, 1, one)}
	if f := Check(nil, l); f != (api.Fault{At: 15, E: api.ErrCount}) {
		t.Error(f)
	}
}

func TestFaultsOfPatterns(t *testing.T) {
	const datas = "data T = A Int Int T | C T;"
	alone := []fault{
		{"x", api.OK},
		{"(x : [y, z, _, [], _])", api.OK},
		{`(A b (C 1) (A 'x' "" f))`, api.OK},
		{"(x : ^x)", api.ErrTwice},
		{"[x, y, ^x]", api.ErrTwice},
		{"(A x y ^x)", api.ErrTwice},
		{"(A x y (C ^y))", api.ErrTwice},
		{"^B", api.ErrScope},
		{"^T", api.ErrScope},
		{"(^B y)", api.ErrScope},
		{"(A x y (^B z))", api.ErrScope},
		{"[x, ^B]", api.ErrScope},
		{"(x : ^B)", api.ErrScope},
		{"^A", api.ErrCount},
		{"(^A x y)", api.ErrCount},
		{"(^A x y z a)", api.ErrCount},
		{"(C ^A)", api.ErrCount},
		{"(C ^C)", api.ErrCount},
		{"(^True x)", api.ErrCount},
		{"[(^False x)]", api.ErrCount},
	}
	rows := []fault{
		{"x y _ _", api.OK},
		{"x y True 1", api.OK},
		{"x ^x", api.ErrTwice},
		{"x y ^x x", api.ErrTwice},
		{"x (C ^x)", api.ErrTwice},
		{"(A (C x) y z) ^x", api.ErrTwice},
		{"x (^B y)", api.ErrScope},
		{"x ^A", api.ErrCount},
	}
	for _, f := range slices.Concat(alone, rows) {
		check(t, datas, []fault{
			{"f " + f.source + " = 1;", f.e},
			{"f 0 = 1; g " + f.source + " = 1;", f.e},
			{`f = \` + f.source + " -> 1;", f.e},
			{"f = let { g " + f.source + " = 1; } in g;", f.e},
		})
	}
	for _, f := range alone {
		check(t, datas, []fault{{"f x = case x of { y : z -> 1; " + f.source + " -> 1; };", f.e}})
	}
	check(t, "", []fault{
		{"f x = case x of { x -> x; x : y -> x; };", api.OK},
		{`f x = \x -> let { x y = x; } in x;`, api.OK},
		{"f x = 1; f x = 2;", api.OK},
	})
}

func TestFaultsOfNames(t *testing.T) {
	check(t, "", []fault{
		{"f = f;", api.OK},
		{"f = g; g = f;", api.OK},
		{"f x y = x + y;", api.OK},
		{"f = 1 - 2 * 3 / 4 % 5 == 6 && 7 /= 8 || 9 < 1 && 1 <= 2 || 1 > 2 && 1 >= 2; g = (++) (ord 'x') chr;", api.OK},
		{`f = \x -> \y -> x y f;`, api.OK},
		{"f x = let { g = h; h y = x g y; } in h;", api.OK},
		{"f x = case x of { y : z -> y z x f; z -> z; };", api.OK},
		{"ord = 1; f = ord; chr x = x;", api.OK},
		{"f = let { ord = chr; chr = ord; } in ord chr;", api.OK},
		{"f = ^y;", api.ErrScope},
		{"f x = x; g = ^x;", api.ErrScope},
		{"f x = 1; f y = ^x;", api.ErrScope},
		{`f = (\x -> x) ^x;`, api.ErrScope},
		{`f = \x -> ^y;`, api.ErrScope},
		{"f = case ^x of { x -> x; };", api.ErrScope},
		{"f = case 1 of { x -> 1; y -> ^x; };", api.ErrScope},
		{"f = let { g x = x; } in ^x;", api.ErrScope},
		{"f = let { g x = x; h = ^x; } in 1;", api.ErrScope},
		{"f = (let { g = 1; } in g) ^g;", api.ErrScope},
		{"f = ^g (let { g = 1; } in g);", api.ErrScope},
		{"f = if ^a then b else c;", api.ErrScope},
		{"f = if 1 then ^b else c;", api.ErrScope},
		{"f = if 1 then 2 else ^c;", api.ErrScope},
		{"f = 1 2 ^c b a;", api.ErrScope},
		{"f a b = 1 a b ^d c;", api.ErrScope},
		{"f = ^mod;", api.ErrScope},
		{"data T = A; f = True : A : [];", api.OK},
		{"f = A; data T = A;", api.OK},
		{"f = let { g = A False; } in 1; data T = A T;", api.OK},
		{"f = ^A;", api.ErrScope},
		{"f = 1 : ^A;", api.ErrScope},
		{"f = ^T; data T = A;", api.ErrScope},
		{"f = ^Int;", api.ErrScope},
		{`f = \x -> case 1 of { 1 -> let { g = ^B; } in 1; }; data T = A;`, api.ErrScope},
	})
}

func TestOuter(t *testing.T) {
	check(t, "data T a = A a | C; f 0 = 1; f :: Int -> Int; f x = 2; g = let { h = 1; } in h; d :: Int; ord = 1;", []fault{
		{"h :: T Int -> T a; h (A x) = f (g x); h C = A C;", api.OK},
		{"f x y = g; f x y = h; g :: Int; g = 1; h = f;", api.OK},
		{"data U = B (T U); h = ord B;", api.OK},
		{"data ^T = B;", api.ErrTwice},
		{"data U = ^A;", api.ErrTwice},
		{"data U = B | ^C Int;", api.ErrTwice},
		{"data U = B ^T;", api.ErrCount},
		{"j :: ^T; j = 1;", api.ErrCount},
		{"j ^A = 1;", api.ErrCount},
		{"j (^C x) = 1;", api.ErrCount},
		{"j = ^h;", api.ErrScope},
		{"j = ^x;", api.ErrScope},
		{"j = ^d;", api.ErrScope},
		{"j = ^B;", api.ErrScope},
		{"^f :: Int;", api.ErrMiss},
	})
	// What is wrong in outer is no fault of the program.
	check(t, "data T = A a U | A; data Int = A; f :: T T; f = x; f B (A y y) = 2; j :: Int;", []fault{
		{"", api.OK},
		{"g = f A;", api.OK},
		{"g = ^x;", api.ErrScope},
	})
}

func bind(name string, at int) tree.Pat { return tree.Pat{Kind: tree.PBind, At: at, Name: name} }

// def: its body is a number, at the name's place.
func def(name string, at, n int, pats ...tree.Pat) tree.Decl {
	return tree.Decl{Kind: tree.DDef, At: at, Name: name, Pats: pats, Body: tree.Expr{Kind: tree.EInt, At: at, N: n}}
}

func TestTheLeastFault(t *testing.T) {
	unknown := func(name string, at int) tree.Expr { return tree.Expr{Kind: tree.EName, At: at, Name: name} }
	body := func(e tree.Expr) tree.Decl { return tree.Decl{Kind: tree.DDef, At: 99, Name: "main", Body: e} }
	sig := func(name string, at int) tree.Decl {
		return tree.Decl{Kind: tree.DSig, At: at, Name: name, Type: tree.Type{Kind: tree.TCon, At: 50, Name: "Int"}}
	}
	call := func(a, b tree.Expr) tree.Expr {
		return tree.Expr{Kind: tree.ECall, At: -90, Args: []tree.Expr{a, b}}
	}
	cases := []struct {
		l    []tree.Decl
		want api.Fault
	}{
		{[]tree.Decl{body(call(unknown("a", 7), unknown("a", 5)))}, api.Fault{At: 5, E: api.ErrScope}},
		{[]tree.Decl{body(call(unknown("a", 7), unknown("b", 5)))}, api.Fault{At: 5, E: api.ErrScope}},
		{[]tree.Decl{body(call(unknown("a", -7), unknown("b", 5)))}, api.Fault{At: -7, E: api.ErrScope}},
		{[]tree.Decl{body(call(unknown("a", 0), unknown("b", 5)))}, api.Fault{At: 0, E: api.ErrScope}},
		{[]tree.Decl{sig("f", 8), sig("f", 3)}, api.Fault{At: 3, E: api.ErrTwice}},
		{[]tree.Decl{sig("f", 3), sig("f", 8)}, api.Fault{At: 3, E: api.ErrMiss}},
		{[]tree.Decl{sig("f", 3), sig("f", 3)}, api.Fault{At: 3, E: api.ErrTwice}},
		{[]tree.Decl{def("f", 3, 1), def("f", 3, 2), sig("g", 3)}, api.Fault{At: 3, E: api.ErrTwice}},
		{[]tree.Decl{sig("g", 3), def("f", 3, 1), def("f", 3, 2, bind("x", 4))}, api.Fault{At: 3, E: api.ErrCount}},
		{[]tree.Decl{sig("g", 3), def("f", 3, 1), def("f", 3, 2, bind("x", 4)), body(unknown("y", 3))}, api.Fault{At: 3, E: api.ErrScope}},
		{[]tree.Decl{body(unknown("y", 3)), def("f", 2, 1, bind("x", 4), bind("x", 2))}, api.Fault{At: 2, E: api.ErrTwice}},
		{[]tree.Decl{def("f", -1<<63, 1), def("f", -1<<63, 2), sig("g", 1<<63-1)}, api.Fault{At: -1 << 63, E: api.ErrTwice}},
		{[]tree.Decl{def("f", 3, 1), sig("g", 1<<63-1)}, api.Fault{At: 1<<63 - 1, E: api.ErrMiss}},
	}
	for i, c := range cases {
		if got := Check(nil, c.l); got != c.want {
			t.Errorf("%d: %v, not %v", i, got, c.want)
		}
	}
}

func TestDeclsThatMayNotBe(t *testing.T) {
	right := []tree.Decl{def("f", 5, 1)}
	unknown := []tree.Decl{{Kind: tree.DDef, At: -5, Name: "f", Body: tree.Expr{Kind: tree.EName, At: -5, Name: "x"}}}
	data := tree.Decl{Kind: tree.DData, At: 3, Name: "T", Cons: []tree.Cons{{At: 4, Name: "A"}}}
	within := tree.Expr{Kind: tree.ELet, Decls: []tree.Decl{data}, Args: []tree.Expr{{Kind: tree.EInt}}}
	deep := func(n int) tree.Expr {
		e := tree.Expr{Kind: tree.EInt, N: 1}
		for range n - 1 {
			e = tree.Expr{Kind: tree.ELam, Pats: []tree.Pat{bind("x", 0)}, Args: []tree.Expr{e}}
		}
		return e
	}
	for i, l := range [][]tree.Decl{
		{{}},
		{{Kind: 4, Name: "f"}},
		{def("F", 5, 1)},
		{def("f", 5, -1)},
		{def("+", 5, 1)},
		{def("f", 5, 1, make([]tree.Pat, 17)...)},
		{{Kind: tree.DDef, Name: "f", Body: within}},
		{{Kind: tree.DDef, Name: "f", Body: deep(4*api.MaxDeep + 1)}},
		slices.Repeat(right, api.MaxDecls+1),
	} {
		for _, both := range [][2][]tree.Decl{{l, right}, {right, l}, {l, l}, {unknown, l}, {l, unknown}, {l, nil}, {nil, l}} {
			if f := Check(both[0], both[1]); f != (api.Fault{E: api.ErrArg}) {
				t.Errorf("%d: %v", i, f)
			}
		}
	}
	for _, l := range [][]tree.Decl{nil, {}, right, {data}, {{Kind: tree.DDef, Name: "f", Body: deep(4 * api.MaxDeep)}}} {
		if f := Check(l, nil); f != (api.Fault{}) {
			t.Error(f)
		}
		if f := Check(nil, l); f != (api.Fault{}) {
			t.Error(f)
		}
	}
}

// Random programs, right or with some faults, behind others.
func TestRandomPrograms(t *testing.T) {
	ends := map[api.Errno]int{}
	for i := range 15000 {
		outer, l := randomProgram(int64(i), 3+i%200)
		want := append(modelFaults(outer, l), api.Fault{})[0]
		if got := Check(outer, l); got != want {
			t.Fatalf("%v behind %v: %v, not %v", l, outer, got, want)
		}
		ends[want.E]++
	}
	for _, e := range []api.Errno{api.OK, api.ErrScope, api.ErrTwice, api.ErrCount, api.ErrMiss} {
		if ends[e] < 300 {
			t.Errorf("%d of %d", ends[e], e)
		}
	}
}

// randomProgram: one name of so many is odd, in the one behind which it stands, too.
func randomProgram(seed int64, odd int) (outer, l []tree.Decl) {
	m := newMaker(seed, odd)
	outer = m.program(int(seed%2), modelBuiltin())
	l = m.program(int(seed%4), slices.Concat(modelBuiltin(), modelNames(outer)))
	if seed%3 == 0 {
		l = slices.DeleteFunc(l, func(d tree.Decl) bool { return m.Intn(4) == 0 })
	}
	return outer, l
}

// What makes no fault: programs without anything odd.
func TestRandomRightPrograms(t *testing.T) {
	for i := range int64(3000) {
		m := newMaker(i, 0)
		outer := m.program(1, modelBuiltin())
		l := m.program(int(i%4), slices.Concat(modelBuiltin(), modelNames(outer)))
		if f := Check(outer, l); f != (api.Fault{}) {
			t.Fatalf("%v behind %v: %v", l, outer, f)
		}
	}
}
