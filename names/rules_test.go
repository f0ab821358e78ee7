package names

import (
	"math"
	"reflect"
	"runtime/debug"
	"slices"
	"strconv"
	"strings"
	"testing"
	"unsafe"

	"hammock/api"
	"hammock/tree"
)

// P601.

// roomyTrees: always the same ones of a number, in new memory, with room behind the lists.
func roomyTrees(i int64) (outer, l []tree.Decl, e tree.Expr) {
	outer, l = randomProgram(i, 20)
	return slices.Grow(outer, 3), slices.Grow(l, 3), newMaker(i, 20).any(3)
}

func TestNothingHandedInIsChanged(t *testing.T) {
	for i := range int64(500) {
		outer, l, e := roomyTrees(i)
		outerWas, lWas, eWas := roomyTrees(i)
		fault, free, names := Check(outer, l), Free(e), Names(l)
		for range 3 {
			// What else is asked changes nothing.
			Check(l, outer)
			Free(tree.Expr{Kind: tree.ELet, Decls: l})
			n, ok := Arity("A", l)
			if m, other := Arity("A", l); m != n || ok != other {
				t.Fatalf("%v: %d, %v", l, m, other)
			}
			if Check(outer, l) != fault || !slices.Equal(Free(e), free) || !slices.Equal(Names(l), names) {
				t.Fatalf("%v behind %v: another answer", l, outer)
			}
		}
		if !reflect.DeepEqual(outer, outerWas) || !reflect.DeepEqual(l, lWas) || !reflect.DeepEqual(e, eWas) {
			t.Fatalf("%d: changed", i)
		}
		for _, d := range append(outer[len(outer):cap(outer)], l[len(l):cap(l)]...) {
			if !reflect.DeepEqual(d, tree.Decl{}) {
				t.Fatalf("%v in the room behind", d)
			}
		}
	}
}

func TestAnswersAreNewMemory(t *testing.T) {
	name := strings.Repeat("n", 8)
	e := tree.Expr{Kind: tree.EName, Name: name, Args: []tree.Expr{{Kind: tree.EName, Name: name[1:]}}}
	l := []tree.Decl{def(name, 0, 0), def(name[1:], 0, 0)}
	texts := []string{name}
	for range 2 {
		for _, names := range [][]string{Free(e), Names(l)} {
			texts = append(texts, names...)
			names[0] = "other"
			clear(names[:cap(names)])
		}
	}
	for i, s := range texts {
		for _, other := range texts[:i] {
			from, to := uintptr(unsafe.Pointer(unsafe.StringData(s))), uintptr(unsafe.Pointer(unsafe.StringData(other)))
			if len(s) < 7 || from < to+uintptr(len(other)) && to < from+uintptr(len(s)) {
				t.Errorf("%q shares memory with %q", s, other)
			}
		}
	}
	if len(texts) != 9 {
		t.Errorf("%q", texts)
	}
}

func TestNilAndEmptyMeanTheSame(t *testing.T) {
	if Check(nil, nil) != Check([]tree.Decl{}, []tree.Decl{}) || len(Names(nil)) != 0 || len(Names([]tree.Decl{})) != 0 {
		t.Error("declarations")
	}
	x := tree.Expr{Kind: tree.EName, Name: "x", Args: []tree.Expr{}, Pats: []tree.Pat{}, Alts: []tree.Alt{}, Decls: []tree.Decl{}}
	if !slices.Equal(Free(x), []string{"x"}) || len(Free(tree.Expr{})) != 0 {
		t.Error("expressions")
	}
	d := tree.Decl{Kind: tree.DDef, Name: "f", Vars: []string{}, Cons: []tree.Cons{}, Pats: []tree.Pat{}, Type: tree.Type{Args: []tree.Type{}}, Body: x}
	if f := Check([]tree.Decl{}, []tree.Decl{d}); f.E != api.ErrScope {
		t.Error(f)
	}
}

func TestAnyTreeIsAnswered(t *testing.T) {
	numbers := []int{math.MinInt, -1, 0, 1, 2, 3, 4, 5, 6, 7, 8, 9, 10, 11, math.MaxInt}
	for _, kind := range numbers {
		for _, n := range numbers {
			for _, s := range []string{"", "a", "A", "_", ":", "[]", "+", "=", "let", "\x00", strings.Repeat("a", 300)} {
				for k := range 4 {
					ty := tree.Type{Kind: kind, At: n, Name: s, Args: slices.Repeat([]tree.Type{{Kind: tree.TVar, Name: "a"}}, k)}
					p := tree.Pat{Kind: kind, At: n, Name: s, N: n, Args: slices.Repeat([]tree.Pat{bind("a", 0)}, k)}
					e := tree.Expr{Kind: kind, At: n, Name: s, N: n, Args: slices.Repeat([]tree.Expr{{Kind: tree.EName, Name: "a"}}, k), Pats: slices.Repeat([]tree.Pat{p}, k)}
					cons := slices.Repeat([]tree.Cons{{At: n, Name: s, Args: []tree.Type{ty}}}, k)
					d := tree.Decl{Kind: kind, At: n, Name: s, Vars: slices.Repeat([]string{s}, k), Cons: cons, Type: ty, Pats: e.Pats, Body: e}
					e.Alts, e.Decls = slices.Repeat([]tree.Alt{{Pat: p, Body: e}}, k), slices.Repeat([]tree.Decl{d}, k)
					answered(t, e, d, []tree.Decl{{Kind: kind, At: n, Name: s, Vars: d.Vars, Cons: cons}, {Kind: kind, At: n, Name: s, Type: ty}, {Kind: kind, At: n, Name: s, Pats: d.Pats, Body: e}})
				}
			}
		}
	}
}

func answered(t *testing.T, e tree.Expr, d tree.Decl, more []tree.Decl) {
	t.Helper()
	if got := Free(e); !slices.Equal(got, rising(modelFree(e))) {
		t.Fatalf("%v: %q", e, got)
	}
	for _, l := range [][]tree.Decl{{d}, {d, d}, more, more[:1], more[1:2], more[2:], {{Kind: tree.DDef, Name: "f", Body: e}}} {
		want := append(modelFaults(nil, l), api.Fault{})[0]
		if !tree.RightDecls(l, true) {
			want = api.Fault{E: api.ErrArg}
		}
		if got := Check(nil, l); got != want {
			t.Fatalf("%v: %v, not %v", l, got, want)
		}
		if n, ok := Arity(d.Name, l); n < 0 || !ok && n != 0 || len(Names(l)) > len(l) || Builtin(d.Name) != slices.Contains(modelBuiltin(), d.Name) {
			t.Fatalf("%v: %d, %v", l, n, ok)
		}
	}
}

// chains: expressions of a depth, one for each of the roads from an expression to one within it. Each uses x, and a name of its own on each level; it binds b with the number of each level.
func chains(deep int) []tree.Expr {
	use := func(name string) tree.Expr { return tree.Expr{Kind: tree.EName, Name: name} }
	wraps := []func(e tree.Expr, name string) tree.Expr{
		func(e tree.Expr, name string) tree.Expr {
			return tree.Expr{Kind: tree.ECall, Args: []tree.Expr{e, use("u" + name)}}
		},
		func(e tree.Expr, name string) tree.Expr {
			return tree.Expr{Kind: tree.ELam, Pats: []tree.Pat{bind("b"+name, 0)}, Args: []tree.Expr{e, use("u" + name), use("b" + name)}}
		},
		func(e tree.Expr, name string) tree.Expr {
			return tree.Expr{Kind: tree.ECase, Alts: []tree.Alt{{Pat: bind("b"+name, 0), Body: e}, {Body: use("u" + name)}}}
		},
		func(e tree.Expr, name string) tree.Expr {
			return tree.Expr{Kind: tree.ELet, Decls: []tree.Decl{{Kind: tree.DDef, Name: "b" + name, Pats: []tree.Pat{bind("b", 0)}, Body: e}}, Args: []tree.Expr{use("u" + name), use("b" + name)}}
		},
	}
	l := make([]tree.Expr, len(wraps))
	for i := range l {
		l[i] = use("x")
		for n := range deep - 1 {
			l[i] = wraps[i](l[i], strconv.Itoa(n))
		}
	}
	return l
}

func TestFreeOfDeepExpressions(t *testing.T) {
	for _, deep := range []int{1, 2, 399, 400, 401, 1000} {
		for i, e := range chains(deep) {
			if got := Free(e); len(got) != deep || !slices.Equal(got, rising(modelFree(e))) {
				t.Errorf("%d of depth %d: %d names", i, deep, len(got))
			}
		}
	}
}

// Trees that are far too deep are answered with a stack that is far too small for a function that goes down to their leaves, and in a time that does not hang on how many names are handed on by each level.
func TestNoTreeIsTooDeep(t *testing.T) {
	const deep = 100000
	defer debug.SetMaxStack(debug.SetMaxStack(1 << 20))
	for i, e := range chains(deep) {
		if got := Free(e); len(got) != deep || got[0] != "u0" || got[deep-1] != "x" {
			t.Errorf("%d: %d names", i, len(got))
		}
		l := []tree.Decl{{Kind: tree.DDef, Name: "f", Body: e}}
		if f := Check(nil, l); f != (api.Fault{E: api.ErrArg}) {
			t.Errorf("%d: %v", i, f)
		}
		if f := Check(l, nil); f != (api.Fault{E: api.ErrArg}) || len(Names(l)) != 1 {
			t.Errorf("%d: %v", i, f)
		}
	}
	p := bind("y", 0)
	for range deep {
		p = tree.Pat{Kind: tree.PMake, Name: ":", Args: []tree.Pat{bind("x", 0), p}}
	}
	e := tree.Expr{Kind: tree.ELam, Pats: []tree.Pat{p}, Args: []tree.Expr{{Kind: tree.EName, Name: "y"}, {Kind: tree.EName, Name: "z"}}}
	if got := Free(e); !slices.Equal(got, []string{"z"}) {
		t.Error(got)
	}
}

// The greatest declarations that may be.
func TestTheGreatestPrograms(t *testing.T) {
	const most = api.MaxDecls
	var l, datas []tree.Decl
	for i := range most {
		n := strconv.Itoa(i)
		next := tree.Expr{Kind: tree.EName, At: i, Name: "f" + strconv.Itoa((i+1)%most)}
		l = append(l, tree.Decl{Kind: tree.DDef, At: i, Name: "f" + n, Body: next})
		var cons []tree.Cons
		for k := range api.MaxCons {
			cons = append(cons, tree.Cons{At: i, Name: "C" + n + "_" + strconv.Itoa(k), Args: []tree.Type{{Kind: tree.TCon, At: i, Name: "T" + strconv.Itoa((i+1)%most)}}})
		}
		datas = append(datas, tree.Decl{Kind: tree.DData, At: i, Name: "T" + n, Cons: cons})
	}
	if f := Check(datas, l); f != (api.Fault{}) {
		t.Error(f)
	}
	if f := Check(l, datas); f != (api.Fault{}) {
		t.Error(f)
	}
	if f := Check(datas, datas); f != (api.Fault{At: 0, E: api.ErrTwice}) {
		t.Error(f)
	}
	if n, ok := Arity("C511_31", datas); n != 1 || !ok || len(Names(l)) != most {
		t.Error(n, ok)
	}
	l[300].Body.Name, datas[300].Cons[31].Args[0].Name = "f512", "T512"
	if f := Check(datas, l); f != (api.Fault{At: 300, E: api.ErrScope}) {
		t.Error(f)
	}
	if f := Check(l, datas); f != (api.Fault{At: 300, E: api.ErrScope}) {
		t.Error(f)
	}
}
