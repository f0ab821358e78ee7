package tree

import (
	"math"
	"slices"
	"testing"
)

// P303.

func TestSameButForAt(t *testing.T) {
	m := newMaker(2)
	for range 60 {
		holdSame(t, m, m.typ(3), SameType)
		holdSame(t, m, m.pat(3), SamePat)
		holdSame(t, m, m.expr(3), SameExpr)
		holdSame(t, m, m.decls(2, true), SameDecls)
	}
}

// holdSame: it's the same as itself in other places, and as itself with no change of another field.
func holdSame[T any](t *testing.T, m maker, x T, same func(a, b T) bool) {
	t.Helper()
	y := moved(m, x)
	if !same(x, x) || !same(x, y) || !same(y, x) {
		t.Fatalf("%v and %v", x, y)
	}
	was := cloned(x)
	eachChange(&x, func(isAt bool) {
		for _, z := range []T{was, y} {
			if same(x, z) != isAt || same(z, x) != isAt || !same(x, x) {
				t.Fatalf("%v and %v, changed in At: %v", x, z, isAt)
			}
		}
	})
}

func TestSameOfAny(t *testing.T) {
	if !SameType(Type{}, Type{At: 3, Args: []Type{}}) || SameType(Type{Kind: -5}, Type{Kind: 5}) {
		t.Error("types")
	}
	if !SamePat(Pat{Kind: 99, N: math.MinInt, At: 1}, Pat{Kind: 99, N: math.MinInt}) || SamePat(Pat{N: math.MinInt}, Pat{N: math.MaxInt}) {
		t.Error("patterns")
	}
	if !SameExpr(Expr{}, Expr{At: -1, Args: []Expr{}, Pats: []Pat{}, Alts: []Alt{}, Decls: []Decl{}}) || SameExpr(Expr{}, Expr{Alts: []Alt{{}}}) {
		t.Error("expressions")
	}
	if !SameDecls(nil, []Decl{}) || SameDecls(nil, []Decl{{}}) || !SameDecls([]Decl{{}}, []Decl{{Vars: []string{}, Cons: []Cons{}, At: 4, Type: Type{At: 5}, Body: Expr{At: 6}}}) {
		t.Error("declarations")
	}
	if SameDecls([]Decl{{Name: "a"}, {Name: "b"}}, []Decl{{Name: "b"}, {Name: "a"}}) {
		t.Error("declarations in another order")
	}
}

func TestSameOfDeepTrees(t *testing.T) {
	for _, n := range []int{399, 400, 401, 402, 800, 801, 5000} {
		types, pats, exprs := typeChains(n), patChains(n), exprChains(n)
		for _, more := range []int{0, 1, 400} {
			for i, x := range typeChains(n + more) {
				if SameType(x, types[i]) != (more == 0) {
					t.Errorf("type %d, %d and %d deep", i, n+more, n)
				}
			}
			for i, x := range patChains(n + more) {
				if SamePat(x, pats[i]) != (more == 0) {
					t.Errorf("pattern %d, %d and %d deep", i, n+more, n)
				}
			}
			for i, x := range exprChains(n + more) {
				if SameExpr(x, exprs[i]) != (more == 0) {
					t.Errorf("expression %d, %d and %d deep", i, n+more, n)
				}
				if SameDecls([]Decl{{Body: x}}, []Decl{{Body: exprs[i]}}) != (more == 0) {
					t.Errorf("body %d, %d and %d deep", i, n+more, n)
				}
			}
		}
	}
}

// P305.

func TestOrderOfSameness(t *testing.T) {
	m := newMaker(3)
	var all []Expr
	for range 40 {
		e := m.expr(m.Intn(2))
		all = append(all, e, moved(m, e), moved(m, e))
	}
	for _, a := range all {
		if !SameExpr(a, a) {
			t.Errorf("%v", a)
		}
		for _, b := range all {
			if SameExpr(a, b) != SameExpr(b, a) {
				t.Errorf("%v and %v", a, b)
			}
			for _, c := range all {
				if SameExpr(a, b) && SameExpr(b, c) && !SameExpr(a, c) {
					t.Errorf("%v, %v and %v", a, b, c)
				}
			}
		}
	}
}

// P306.

func TestSameTreesCountTheSame(t *testing.T) {
	m := newMaker(4)
	for range 8 {
		p, e, l, ty := m.pat(3), m.expr(3), m.decls(2, true), m.typ(3)
		q, f := moved(m, p), moved(m, e)
		if !slices.Equal(Binds(p), Binds(q)) || Size(e) != Size(f) || Deep(e) != Deep(f) {
			t.Fatalf("%v and %v", e, f)
		}
		eachChange(&ty, func(bool) {
			if RightType(ty) != RightType(moved(m, ty)) {
				t.Fatalf("%v", ty)
			}
		})
		eachChange(&p, func(bool) {
			if q := moved(m, p); RightPat(p) != RightPat(q) || !slices.Equal(Binds(p), Binds(q)) {
				t.Fatalf("%v", p)
			}
		})
		eachChange(&e, func(bool) {
			if f := moved(m, e); RightExpr(e) != RightExpr(f) || Size(e) != Size(f) || Deep(e) != Deep(f) {
				t.Fatalf("%v", e)
			}
		})
		eachChange(&l, func(bool) {
			if k := moved(m, l); RightDecls(l, true) != RightDecls(k, true) {
				t.Fatalf("%v", l)
			}
		})
	}
}
