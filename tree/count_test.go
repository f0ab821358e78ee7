package tree

import (
	"math"
	"reflect"
	"runtime/debug"
	"slices"
	"strings"
	"testing"
	"unsafe"
)

// P304.

// partsOf: the expressions right within one.
func partsOf(e Expr) []Expr {
	l := slices.Clone(e.Args)
	for _, a := range e.Alts {
		l = append(l, a.Body)
	}
	for _, d := range e.Decls {
		if d.Kind == 3 {
			l = append(l, d.Body)
		}
	}
	return l
}

func modelSize(e Expr) int {
	n := 1
	for _, x := range partsOf(e) {
		n += modelSize(x)
	}
	return n
}

func modelDeep(e Expr) int {
	n := 0
	for _, x := range partsOf(e) {
		n = max(n, modelDeep(x))
	}
	return n + 1
}

func modelBinds(p Pat) []string {
	if p.Kind == 2 {
		return []string{p.Name}
	}
	var l []string
	if p.Kind == 6 {
		for _, x := range p.Args {
			l = append(l, modelBinds(x)...)
		}
	}
	return l
}

func TestSizeAndDeep(t *testing.T) {
	f, x := Expr{Kind: EName, Name: "f"}, Expr{Kind: EName, Name: "x"}
	call := Expr{Kind: ECall, Args: []Expr{f, x}}
	cases := []struct {
		e          Expr
		size, deep int
	}{
		{call, 3, 2},
		{x, 1, 1},
		{Expr{}, 1, 1},
		{Expr{Kind: ECall, Args: []Expr{call, x}}, 5, 3},
		{Expr{Kind: ELam, Pats: []Pat{{Kind: PBind, Name: "x"}, {Kind: PAny}}, Args: []Expr{call}}, 4, 3},
		{Expr{Kind: ECase, Args: []Expr{x}, Alts: []Alt{{Pat{Kind: PAny}, call}, {Pat{Kind: PAny}, x}}}, 6, 3},
		{Expr{Kind: ELet, Args: []Expr{x}}, 2, 2},
		{Expr{Kind: ELet, Args: []Expr{x}, Decls: []Decl{{Kind: DDef, Name: "f", Body: call}, {Kind: DSig, Name: "f"}}}, 5, 3},
		{Expr{Kind: ELet, Decls: []Decl{{Kind: DSig, Body: call}, {Kind: DData, Body: call}, {Body: call}, {Kind: 4, Body: call}}}, 1, 1},
		{Expr{Kind: math.MinInt, Args: []Expr{{}, {}}, Alts: []Alt{{}}, Decls: []Decl{{Kind: DDef}}}, 5, 2},
		{Expr{Kind: EInt, N: 5, Args: times(10000, x)}, 10001, 2},
	}
	for i, c := range cases {
		if Size(c.e) != c.size || Deep(c.e) != c.deep {
			t.Errorf("%d: %d, %d", i, Size(c.e), Deep(c.e))
		}
	}
}

func TestBinds(t *testing.T) {
	x, y := Pat{Kind: PBind, Name: "x"}, Pat{Kind: PBind, Name: "y"}
	list := func(a, b Pat) Pat { return Pat{Kind: PMake, Name: ":", Args: []Pat{a, b}} }
	cases := []struct {
		p    Pat
		want string
	}{
		{x, "x"},
		{Pat{}, ""},
		{Pat{Kind: PAny}, ""},
		{Pat{Kind: PMake, Name: "[]"}, ""},
		{list(x, y), "x y"},
		{list(y, list(x, Pat{Kind: PAny})), "y x"},
		{list(list(y, x), list(x, y)), "y x x y"},
		{Pat{Kind: PMake, Name: "C", Args: []Pat{x, {Kind: PNum, N: 1}, y, {Kind: PStr, Name: "s"}, x}}, "x y x"},
		{Pat{Kind: PBind, Name: "_", Args: []Pat{x}}, "_"},
		{Pat{Kind: PStr, Name: "s", Args: []Pat{x, y}}, ""},
		{Pat{Kind: 7, Name: "s", Args: []Pat{x}}, ""},
		{Pat{Kind: -1, Name: "s", Args: []Pat{x}}, ""},
	}
	for i, c := range cases {
		if got := Binds(c.p); strings.Join(got, " ") != c.want || (len(got) == 0) != (c.want == "") {
			t.Errorf("%d: %v", i, got)
		}
	}
	if got := Binds(Pat{Kind: PBind}); len(got) != 1 || got[0] != "" {
		t.Errorf("without a name: %v", got)
	}
}

func TestCountsOfRandomTrees(t *testing.T) {
	m := newMaker(5)
	for range 60 {
		p, e := m.pat(4), m.expr(4)
		if !slices.Equal(Binds(p), modelBinds(p)) {
			t.Fatalf("%v: %v", p, Binds(p))
		}
		if Size(e) != modelSize(e) || Deep(e) != modelDeep(e) {
			t.Fatalf("%v: %d, %d", e, Size(e), Deep(e))
		}
	}
	for range 20 {
		p, e := m.pat(3), m.expr(2)
		eachChange(&p, func(bool) {
			if !slices.Equal(Binds(p), modelBinds(p)) {
				t.Fatalf("%v: %v", p, Binds(p))
			}
		})
		eachChange(&e, func(bool) {
			if Size(e) != modelSize(e) || Deep(e) != modelDeep(e) {
				t.Fatalf("%v: %d, %d", e, Size(e), Deep(e))
			}
		})
	}
}

func TestCountsOfDeepTrees(t *testing.T) {
	for _, n := range []int{1, 2, 398, 399, 400, 401, 402, 799, 800, 801, 802, 5000} {
		for i, e := range exprChains(n) {
			if Deep(e) != max(1, n) || Size(e) != modelSize(e) {
				t.Errorf("%d of depth %d: %d, %d", i, n, Deep(e), Size(e))
			}
		}
		for i, p := range patChains(n) {
			if !slices.Equal(Binds(p), modelBinds(p)) {
				t.Errorf("%d of depth %d", i, n)
			}
		}
	}
}

// P301.

// Trees that are far too deep are answered with a stack that is far too small for a function that goes down to their leaves.
func TestNoTreeIsTooDeepForTheStack(t *testing.T) {
	const deep = 100000
	defer debug.SetMaxStack(debug.SetMaxStack(1 << 20))
	for i, x := range typeChains(deep) {
		if RightType(x) || !SameType(x, x) || SameType(x, typeChains(1)[0]) {
			t.Errorf("type %d", i)
		}
	}
	for i, x := range patChains(deep) {
		if n := len(Binds(x)); RightPat(x) || !SamePat(x, x) || n < 1 || n > deep {
			t.Errorf("pattern %d", i)
		}
	}
	for i, x := range exprChains(deep) {
		l := []Decl{{Kind: DDef, Name: "x", Body: x}}
		if RightExpr(x) || RightDecls(l, true) || !SameExpr(x, x) || !SameDecls(l, l) || Deep(x) != deep || Size(x) < deep {
			t.Errorf("expression %d", i)
		}
	}
}

func TestAnyTreeIsAnswered(t *testing.T) {
	for _, kind := range manyKinds() {
		for _, n := range manyNumbers() {
			for _, s := range manyNames() {
				for k := range 3 {
					ty := Type{kind, n, s, times(k, Type{Kind: -kind})}
					p := Pat{kind, n, s, n, times(k, Pat{Kind: kind, N: -n})}
					d := Decl{kind, n, s, times(k, s), times(k, Cons{n, s, []Type{ty}}), ty, times(k, p), Expr{Kind: kind}}
					e := Expr{kind, n, s, n, times(k, Expr{Kind: kind}), times(k, p), times(k, Alt{Pat: p}), times(k, d)}
					l := []Decl{d, {Kind: kind, Body: e}}
					RightType(ty)
					RightPat(p)
					RightExpr(e)
					RightDecls(l, k == 0)
					if !SameType(ty, ty) || !SamePat(p, p) || !SameExpr(e, e) || !SameDecls(l, l) {
						t.Fatalf("%v", e)
					}
					if Size(e) != modelSize(e) || Deep(e) != modelDeep(e) || !slices.Equal(Binds(p), modelBinds(p)) {
						t.Fatalf("%v", e)
					}
				}
			}
		}
	}
}

func TestNothingHandedInIsChanged(t *testing.T) {
	m := newMaker(6)
	for range 100 {
		ty, p, e, l := m.typ(3), m.pat(3), m.expr(3), m.decls(2, true)
		room, was := slices.Grow(l, 3), cloned(l)
		tyWas, pWas, eWas := cloned(ty), cloned(p), cloned(e)
		for range 2 {
			if !RightType(ty) || !RightPat(p) || !RightExpr(e) || !RightDecls(room, true) {
				t.Fatalf("%v", e)
			}
			SameType(ty, m.typ(2))
			SamePat(p, m.pat(2))
			SameExpr(e, m.expr(2))
			SameDecls(room, m.decls(2, true))
			Size(e)
			Deep(e)
			Binds(p)
		}
		if !reflect.DeepEqual(ty, tyWas) || !reflect.DeepEqual(p, pWas) || !reflect.DeepEqual(e, eWas) || !reflect.DeepEqual(l, was) {
			t.Fatalf("%v, not %v", e, eWas)
		}
		for _, d := range room[len(l):cap(room)] {
			if !reflect.DeepEqual(d, Decl{}) {
				t.Fatalf("%v in the room behind", d)
			}
		}
	}
}

func TestBindsAreNewMemory(t *testing.T) {
	name := strings.Repeat("n", 8)
	p := Pat{Kind: PMake, Name: ":", Args: []Pat{{Kind: PBind, Name: name}, {Kind: PBind, Name: name}}}
	one, two := Binds(p), Binds(p)
	one[0] = "other"
	if two[0] != name || p.Args[0].Name != name {
		t.Error(two)
	}
	for _, s := range two {
		if unsafe.StringData(s) == unsafe.StringData(name) {
			t.Error("a name shares memory with the pattern's")
		}
	}
	if unsafe.StringData(two[0]) == unsafe.StringData(two[1]) {
		t.Error("two names share memory")
	}
}
