package datas

import (
	"runtime/debug"
	"slices"
	"strconv"
	"strings"
	"testing"

	"hammock/api"
	"hammock/tree"
)

// P803.

func TestPlain(t *testing.T) {
	x := table(t,
		"data Tree a = Leaf | Node a (Tree a); data F = E | F Int (Int -> Int); data G a = H | G F a;",
		"data P a = P a; data M = M N; data N = N M | O; data X = X Y; data Y = Y Z | V X; data Z = Z Unknown;",
		"data W a = W [P [a -> a]]; data S = S [S] [Tree (P S)]; data K = K (P K) (Q K); data Q a = R a F;",
		"data V a = U b; data C = C True; data D = D (Int Int) (P a a); data L = L1 L | L2 (Tree L) | L3 [[K]];",
	)
	for s, want := range map[string]bool{
		"Int": true, "Char": true, "Bool": true, "[Int]": true, "[[Char]]": true, "a": true, "[a]": true, "Tree a": true,
		"[Tree Char]": true, "P a": true, "P (Tree [Bool])": true, "M": true, "N": true, "S": true, "V Int": true, "D": true, "D D": true, "Int Int": true,
		"Tree": true, "P a b c": true, "Tree (Tree (Tree M))": true,
		"Int -> Int": false, "[Int -> Int]": false, "a -> b": false, "P (Int -> Int)": false, "Tree [a -> Int]": false, "Tree Int (a -> a)": false,
		"Unknown": false, "[Unknown]": false, "P Unknown": false, "Unknown Int": false, "True": false, "Leaf": false, "Node Int": false,
		"F": false, "[F]": false, "G Int": false, "P F": false, "Tree (P [G Int])": false, "P Int F": false, "P F Int": false,
		"X": false, "Y": false, "Z": false, "W Int": false, "C": false, "K": false, "Q Int": false, "L": false, "Tree L": false,
	} {
		if x.Plain(typed(t, s)) != want {
			t.Errorf("%s: %v", s, !want)
		}
	}
}

func TestPlainOfTypesThatMayNotBe(t *testing.T) {
	x := table(t, "data T a = A a;")
	deep := typCon("Int")
	for range 4*api.MaxDeep - 1 {
		deep = typCon("T", deep)
	}
	if !x.Plain(deep) {
		t.Error("of the greatest depth")
	}
	integer := typCon("Int")
	for i, y := range []tree.Type{
		{},
		{Kind: 4, Name: "Int"},
		{Kind: -1, Name: "a"},
		{Name: "Int"},
		typVar("Int"), typVar("_"), typVar(""), typVar("let"),
		{Kind: tree.TVar, Name: "a", Args: []tree.Type{integer}},
		typCon("int"), typCon(""), typCon(":"), typCon(":", integer, integer), typCon("a"),
		typCon("[]"), typCon("[]", integer, integer),
		typCon("T", slices.Repeat([]tree.Type{integer}, api.MaxParts+1)...),
		typCon("T", typCon("[]")),
		typCon("T", integer, tree.Type{}),
		typCon("T", deep),
		{Kind: tree.TFun},
		{Kind: tree.TFun, Name: "Int", Args: []tree.Type{integer, integer}},
	} {
		if x.Plain(y) {
			t.Errorf("%d: %v", i, y)
		}
	}
	if !x.Plain(tree.Type{Kind: tree.TCon, At: -5, Name: "T", Args: slices.Repeat([]tree.Type{{Kind: tree.TCon, At: 1 << 62, Name: "Int"}}, api.MaxParts)}) {
		t.Error("of as many Args as may be, at any place")
	}
}

func TestRings(t *testing.T) {
	for s, want := range map[string]string{
		"":                                  "",
		"data T = A;":                       "",
		"data T a = A a;":                   "",
		"data T = A T;":                     "T",
		"data T = A | B Int | C Int Char T": "T",
		"data T = A [T];":                   "T",
		"data T = A [[Int -> U T]];":        "T",
		"data T = A (Unknown T);":           "T",
		"data T = A [Int]; data U = B T;":   "",
		"data T = A U; data U = B T;":       "T U",
		"data T = A U; data U = B T | C V; data V = D | E V; data W = F T;":     "T U V",
		"data U = B V; data V = C W; data W = D U; data T = A U;":               "U V W",
		"data T = A U; data U = B V; data V = C V;":                             "V",
		"data T a = A a; data U = B (T U); data V = C (T Int);":                 "U",
		"data T a = A (U a); data U a = B V a; data V = C (T V) | D;":           "T U V",
		"data T = A U; data U = B V; data V = C;":                               "",
		"data T = A V; data U = B V; data V = C W; data W = D;":                 "",
		"data T = A U V; data U = B W; data V = C W; data W = D T;":             "T U V W",
		"data A = T; data T = B A; data B = C;":                                 "",
		"data Z = Z1 Y; data Y = Y1 X; data X = X1 Y; data W = W1 W; data V=V1": "Y X W",
	} {
		x := table(t, strings.TrimSuffix(s, ";")+strings.Repeat(";", min(len(s), 1)))
		if got := x.Rings(); strings.Join(got, " ") != strings.TrimSpace("[] "+want) {
			t.Errorf("%s: %q", s, got)
		}
	}
}

// All tables of three types: which names which, and in which there is something odd.
func TestAllSmallTables(t *testing.T) {
	names := []string{"A", "B", "C"}
	odd := []tree.Type{typFun(typVar("a"), typVar("a")), typCon("Q"), typCon("[]", typCon("Q"))}
	for bits := range 1 << 12 {
		var l []tree.Decl
		for i, name := range names {
			con := tree.Cons{Name: name}
			for k, other := range names {
				if bits>>(3*i+k)&1 == 1 {
					con.Args = append(con.Args, typCon(other))
				}
			}
			if bits>>(9+i)&1 == 1 {
				con.Args = append(con.Args, odd[i])
			}
			l = append(l, dataOf(name, con))
		}
		m, _ := modelNew(l)
		x, e := New(l)
		if e != api.OK {
			t.Fatal(e)
		}
		modelled(t, x, m)
	}
}

func TestPlainOfRandomTypes(t *testing.T) {
	counts := map[bool]int{}
	for i := range int64(2000) {
		m := newMaker(i, 30)
		lists := m.lists(int(i) % 12)
		want, _ := modelNew(lists...)
		x, e := New(lists...)
		if e != api.OK {
			t.Fatal(e)
		}
		for range 10 {
			y := m.typ(3, []string{"a", "b"})
			if got := x.Plain(y); got != want.plain(y) {
				t.Fatalf("%v: %v of %v", lists, got, y)
			}
			counts[x.Plain(y)]++
		}
	}
	if counts[true] < 2000 || counts[false] < 2000 {
		t.Error(counts)
	}
}

// chain: types, in lists as long as may be, each of which names the next one; what the last one names is handed in.
func chain(n int, last tree.Type) [][]tree.Decl {
	var lists [][]tree.Decl
	for i := range n {
		if i%api.MaxDecls == 0 {
			lists = append(lists, nil)
		}
		next := typCon("T" + strconv.Itoa(i+1))
		if i == n-1 {
			next = last
		}
		k := len(lists) - 1
		lists[k] = append(lists[k], dataOf("T"+strconv.Itoa(i), tree.Cons{Name: "A" + strconv.Itoa(i), Args: []tree.Type{next}}))
	}
	return lists
}

// More types than a short stack has room for, each ahead of, or behind, what it names.
func TestLongChains(t *testing.T) {
	defer debug.SetMaxStack(debug.SetMaxStack(1 << 19))
	for _, n := range []int{500, 512, 1019, 1020, 1021, 1024, 1025, 20000} {
		for _, c := range []struct {
			last  tree.Type
			plain bool
			rings []int // from, to
		}{
			{typCon("Int"), true, []int{n, n}},
			{typCon("Unknown"), false, []int{n, n}},
			{typFun(typCon("T0"), typCon("T0")), false, []int{0, n}},
			{typCon("T0"), true, []int{0, n}},
			{typCon("[]", typCon("T"+strconv.Itoa(n/2))), true, []int{n / 2, n}},
		} {
			lists := chain(n, c.last)
			for range 2 {
				x, e := New(lists...)
				if e != api.OK {
					t.Fatal(e)
				}
				for _, i := range []int{0, n / 2, n - 1} {
					if x.Plain(typCon("T"+strconv.Itoa(i))) != c.plain {
						t.Errorf("%d of %d, to %v", i, n, c.last)
					}
				}
				rings := x.Rings()
				ringed := map[string]int{}
				for _, name := range rings {
					ringed[name]++
				}
				for i := range n {
					if want := i >= c.rings[0] && i < c.rings[1]; (ringed["T"+strconv.Itoa(i)] == 1) != want {
						t.Fatalf("%d of %d, to %v: %v", i, n, c.last, !want)
					}
				}
				if len(rings) != 1+c.rings[1]-c.rings[0] || rings[0] != "[]" || len(x.Types()) != n+4 {
					t.Errorf("%d of %d", len(rings), n)
				}
				slices.Reverse(lists)
				for _, l := range lists {
					slices.Reverse(l)
				}
			}
		}
	}
}

// Types each of which names each, more often than there are tokens in any source.
func TestDenseTables(t *testing.T) {
	const n = 200
	names := make([]tree.Type, n)
	for i := range names {
		names[i] = typCon("T" + strconv.Itoa(i))
	}
	for _, odd := range []int{-1, 0, n - 1} {
		var l []tree.Decl
		for i := range n {
			cons := manyCons("A"+strconv.Itoa(i)+"_", 13)
			for k, to := range names {
				// The last ones name only those ahead of them, and are named only by those behind.
				if i < 150 && k < 150 || k < i {
					cons[k/16].Args = append(cons[k/16].Args, to)
				}
			}
			if i == odd {
				cons[0].Args[0] = typCon("[]", typFun(names[0], names[0]))
			}
			l = append(l, dataOf(names[i].Name, cons...))
		}
		x, e := New(l)
		if e != api.OK {
			t.Fatal(e)
		}
		if got := x.Rings(); len(got) != 151 || got[1] != "T0" || got[150] != "T149" {
			t.Errorf("%d: %v", odd, got)
		}
		for i, y := range names {
			// All name the first one, and none the last one.
			if want := odd < 0 || odd == n-1 && i < n-1; x.Plain(y) != want {
				t.Errorf("%d: %d", odd, i)
			}
		}
	}
}

// P805.

func TestATypeIsPlainJustIfItsPartsAre(t *testing.T) {
	for i := range int64(2000) {
		m := newMaker(i, 25)
		x, e := New(m.lists(int(i) % 10)...)
		if e != api.OK {
			t.Fatal(e)
		}
		for range 10 {
			y := m.typ(3, []string{"a", "b"})
			want := true
			for _, name := range namesIn([]tree.Type{y}) {
				want = want && name != "->" && x.Plain(withVars(name))
			}
			if x.Plain(y) != want {
				t.Fatalf("%v: %v", y, !want)
			}
		}
	}
}

// withVars: a type of that name, named with parameters that are plain.
func withVars(name string) tree.Type {
	if name == "[]" {
		return typCon(name, typVar("a"))
	}
	return typCon(name, typVar("a"), typCon("Int"))
}
