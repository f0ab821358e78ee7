package tree

import (
	"math"
	"regexp"
	"slices"
	"strings"
	"testing"

	"hammock/api"
)

// The model: a table of what a Kind names, held against what the package tells.

var (
	modelName = regexp.MustCompile(`^([a-z][a-zA-Z0-9_']{0,31}|_[a-zA-Z0-9_']{1,31})$`)
	modelKey  = regexp.MustCompile(`^(case|data|else|if|in|let|of|then)$`)
	modelCon  = regexp.MustCompile(`^[A-Z][a-zA-Z0-9_']{0,31}$`)
	modelOp   = regexp.MustCompile(`^([-+*/%<>]|==|/=|<=|>=|&&|\|\||\+\+)$`)
	modelList = regexp.MustCompile(`^(:|\[\])$`)
)

func isOneOf(s string, l ...*regexp.Regexp) bool {
	return slices.ContainsFunc(l, func(r *regexp.Regexp) bool { return r.MatchString(s) && (r != modelName || !modelKey.MatchString(s)) })
}

// span: from the least to the greatest.
type span struct{ least, most int }

func (s span) has(n int) bool { return s.least <= n && n <= s.most }

// row: what may stand in a node of a Kind; nil and zero of what it does not name.
type row struct {
	name                      func(s string) bool
	n, args, pats, alts, decl span
}

func (r row) has(name string, n, args, pats, alts, decls int) bool {
	if r.name == nil {
		r.name = func(s string) bool { return s == "" }
	}
	return r.name(name) && r.n.has(n) && r.args.has(args) && r.pats.has(pats) && r.alts.has(alts) && r.decl.has(decls)
}

func one(l ...*regexp.Regexp) func(string) bool {
	return func(s string) bool { return isOneOf(s, l...) }
}

func shortText(s string) bool { return len(s) <= 256 }

var (
	modelTypes = map[int]row{
		TVar: {name: one(modelName)},
		TCon: {name: func(s string) bool { return s == "[]" || isOneOf(s, modelCon) }, args: span{0, 16}},
		TFun: {args: span{2, 2}},
	}
	modelPats = map[int]row{
		PAny:  {},
		PBind: {name: one(modelName)},
		PNum:  {n: span{0, math.MaxInt}},
		PChr:  {n: span{0, 255}},
		PStr:  {name: shortText},
		PMake: {name: one(modelCon, modelList), args: span{0, 16}},
	}
	modelExprs = map[int]row{
		EName: {name: one(modelName, modelOp)},
		ECon:  {name: one(modelCon, modelList)},
		EInt:  {n: span{0, math.MaxInt}},
		EChar: {n: span{0, 255}},
		EText: {name: shortText},
		ECall: {args: span{2, 2}},
		ELam:  {args: span{1, 1}, pats: span{1, 16}},
		ELet:  {args: span{1, 1}, decl: span{0, 512}},
		EIf:   {args: span{3, 3}},
		ECase: {args: span{1, 1}, alts: span{1, 512}},
	}
)

func modelType(t Type) bool {
	r, ok := modelTypes[t.Kind]
	if !ok || !r.has(t.Name, 0, len(t.Args), 0, 0, 0) || t.Name == "[]" && len(t.Args) != 1 {
		return false
	}
	return !slices.ContainsFunc(t.Args, func(x Type) bool { return !modelType(x) })
}

func modelPat(p Pat) bool {
	r, ok := modelPats[p.Kind]
	if !ok || !r.has(p.Name, p.N, len(p.Args), 0, 0, 0) {
		return false
	}
	if p.Kind == PMake && (p.Name == "[]" && len(p.Args) != 0 || p.Name == ":" && len(p.Args) != 2) {
		return false
	}
	return modelPatList(p.Args)
}

func modelPatList(l []Pat) bool {
	return !slices.ContainsFunc(l, func(x Pat) bool { return !modelPat(x) })
}

func modelExpr(e Expr) bool {
	r, ok := modelExprs[e.Kind]
	if !ok || !r.has(e.Name, e.N, len(e.Args), len(e.Pats), len(e.Alts), len(e.Decls)) {
		return false
	}
	for _, x := range e.Args {
		if !modelExpr(x) {
			return false
		}
	}
	for _, x := range e.Alts {
		if !modelPat(x.Pat) || !modelExpr(x.Body) {
			return false
		}
	}
	return modelPatList(e.Pats) && modelDecls(e.Decls, false)
}

func modelDecls(l []Decl, top bool) bool {
	if len(l) > 512 {
		return false
	}
	for _, d := range l {
		noData := len(d.Vars)+len(d.Cons) == 0
		noType := d.Type.Kind == 0 && d.Type.Name == "" && len(d.Type.Args) == 0
		b := d.Body
		noBody := b.Kind == 0 && b.Name == "" && b.N == 0 && len(b.Args)+len(b.Pats)+len(b.Alts)+len(b.Decls) == 0
		ok := false
		switch d.Kind {
		case DData:
			ok = top && modelData(d) && noType && noBody && len(d.Pats) == 0
		case DSig:
			ok = isOneOf(d.Name, modelName) && modelType(d.Type) && noData && noBody && len(d.Pats) == 0
		case DDef:
			ok = isOneOf(d.Name, modelName) && len(d.Pats) <= 16 && modelPatList(d.Pats) && modelExpr(b) && noData && noType
		}
		if !ok {
			return false
		}
	}
	return true
}

func modelData(d Decl) bool {
	if !isOneOf(d.Name, modelCon) || len(d.Vars) > 16 || len(d.Cons) < 1 || len(d.Cons) > 32 {
		return false
	}
	seen := map[string]bool{}
	for _, v := range d.Vars {
		if !isOneOf(v, modelName) || seen[v] {
			return false
		}
		seen[v] = true
	}
	for _, c := range d.Cons {
		if !isOneOf(c.Name, modelCon) || len(c.Args) > 16 || slices.ContainsFunc(c.Args, func(t Type) bool { return !modelType(t) }) {
			return false
		}
	}
	return true
}

// Texts and numbers, good and bad.
func manyNames() []string {
	return []string{
		"", "_", "x", "__", "_1", "x'", "a_B'1", longName, longName + "n", strings.Repeat("n", 100000),
		"X", "X1'_", "N" + longName[1:], "N" + longName, "A B", "A ", " A", "A--", "A{--}", "a b", "a--", "1", "1a", "'a", "\"\"", "x\x00", "ä", "X\n",
		":", "[]", "[ ]", "()", "+", "-", "*", "/", "%", "==", "/=", "<", "<=", ">", ">=", "&&", "||", "++",
		"=", "|", "->", "\\", "::", ".", "!", "&", "+-", "(+)", "case", "data", "else", "if", "in", "let", "of", "then", "let'", "Let",
		strings.Repeat("\x00", api.MaxText), strings.Repeat("\x00", api.MaxText+1),
	}
}

func manyNumbers() []int { return []int{math.MinInt, -1, 0, 1, 255, 256, math.MaxInt} }

func manyKinds() []int {
	return []int{math.MinInt, -1, 0, 1, 2, 3, 4, 5, 6, 7, 8, 9, 10, 11, 12, 257, math.MaxInt}
}

func times[T any](n int, x T) []T {
	l := make([]T, n)
	for i := range l {
		l[i] = x
	}
	return l
}

// P302.

func TestConstants(t *testing.T) {
	for _, l := range [][]int{
		{TVar, TCon, TFun}, {PAny, PBind, PNum, PChr, PStr, PMake},
		{EName, ECon, EInt, EChar, EText, ECall, ELam, ELet, EIf, ECase}, {DData, DSig, DDef},
	} {
		for i, n := range l {
			if n != i+1 {
				t.Errorf("%d in %v", n, l)
			}
		}
	}
}

func TestEachKindOfType(t *testing.T) {
	leaf, good := Type{Kind: TCon, Name: "Int"}, 0
	for _, kind := range manyKinds() {
		for _, name := range manyNames() {
			for _, args := range []int{0, 1, 2, 3, 16, 17, 1000} {
				x := Type{kind, -args, name, times(args, leaf)}
				want := modelType(x)
				if RightType(x) != want {
					t.Fatalf("kind %d, %q, %d: %v", kind, name, args, !want)
				}
				if want {
					good++
				}
			}
		}
	}
	if good < 25 {
		t.Errorf("just %d may be", good)
	}
}

func TestEachKindOfPat(t *testing.T) {
	leaf, good := Pat{Kind: PAny}, 0
	for _, kind := range manyKinds() {
		for _, name := range manyNames() {
			for _, n := range manyNumbers() {
				for _, args := range []int{0, 1, 2, 3, 16, 17, 1000} {
					x := Pat{kind, n, name, n, times(args, leaf)}
					want := modelPat(x)
					if RightPat(x) != want {
						t.Fatalf("kind %d, %q, %d, %d: %v", kind, name, n, args, !want)
					}
					if want {
						good++
					}
				}
			}
		}
	}
	if good < 80 {
		t.Errorf("just %d may be", good)
	}
}

func TestEachKindOfExpr(t *testing.T) {
	leaf, pat := Expr{Kind: EInt}, Pat{Kind: PAny}
	alt, def := Alt{pat, leaf}, Decl{Kind: DDef, Name: "x", Body: leaf}
	good := 0
	for _, kind := range manyKinds() {
		for _, name := range manyNames() {
			for _, n := range manyNumbers() {
				for args := range 5 {
					x := Expr{Kind: kind, At: n, Name: name, N: n, Args: times(args, leaf)}
					holdExpr(t, x, &good)
					if name != "" && name != "x" || n != 0 {
						continue
					}
					for _, pats := range []int{0, 1, 2, 16, 17} {
						for _, alts := range []int{0, 1, 2, 512, 513} {
							for _, decls := range []int{0, 1, 2, 512, 513} {
								x.Pats, x.Alts, x.Decls = times(pats, pat), times(alts, alt), times(decls, def)
								holdExpr(t, x, &good)
							}
						}
					}
				}
			}
		}
	}
	if good < 100 {
		t.Errorf("just %d may be", good)
	}
}

func holdExpr(t *testing.T, x Expr, good *int) {
	t.Helper()
	want := modelExpr(x)
	if RightExpr(x) != want {
		t.Fatalf("kind %d, %q, %d, %d, %d, %d, %d: %v", x.Kind, x.Name, x.N, len(x.Args), len(x.Pats), len(x.Alts), len(x.Decls), !want)
	}
	if want {
		*good++
	}
}

func TestEachKindOfDecl(t *testing.T) {
	good := 0
	vars := [][]string{nil, {"a"}, {"a", "b"}, {"a", "b", "a"}, {"_"}, {"A"}, {""}, {"+"}, {longName}, {longName + "n"}}
	for _, n := range []int{15, 16, 17} {
		var l []string
		for i := range n {
			l = append(l, "v"+strings.Repeat("'", i))
		}
		vars = append(vars, l)
	}
	typ := Type{Kind: TVar, Name: "a"}
	var cons [][]Cons
	for _, n := range []int{0, 1, 2, 32, 33} {
		cons = append(cons, times(n, Cons{Name: "C", Args: []Type{typ}}))
	}
	for _, n := range []int{0, 16, 17} {
		cons = append(cons, []Cons{{Name: "D"}, {Name: "C", Args: times(n, typ)}})
	}
	for _, name := range []string{"", "c", ":", "[]", "_"} {
		cons = append(cons, []Cons{{Name: "C"}, {Name: name}})
	}
	cons = append(cons, []Cons{{Name: "C", Args: []Type{{}}}})
	typs := []Type{{}, typ, {At: 5, Args: []Type{}}, {Kind: 4}, {Name: "a"}, {Args: []Type{{}}}}
	bodies := []Expr{{}, {Kind: EInt}, {At: 5, Decls: []Decl{}}, {Kind: 11}, {Name: "x"}, {N: 1}, {Args: []Expr{{}}}, {Pats: []Pat{{}}}, {Alts: []Alt{{}}}, {Decls: []Decl{{}}}}
	for _, kind := range []int{math.MinInt, -1, 0, 1, 2, 3, 4, math.MaxInt} {
		for _, name := range []string{"", "x", "_", "X", ":", "[]", "+", "let", longName, longName + "n"} {
			for _, v := range vars {
				for _, c := range cons {
					for _, ty := range typs {
						for _, b := range bodies {
							for _, pats := range []int{0, 1, 16, 17} {
								if pats > 1 && len(v)+len(c) > 0 {
									continue
								}
								l := []Decl{{kind, kind, name, v, c, ty, times(pats, Pat{Kind: PAny}), b}}
								want := modelDecls(l, true)
								if RightDecls(l, true) != want || RightDecls(l, false) != (want && kind != DData) {
									t.Fatalf("%v: %v", l, !want)
								}
								let := Expr{Kind: ELet, Decls: l, Args: []Expr{{Kind: EInt}}}
								if RightExpr(let) != (want && kind != DData) {
									t.Fatalf("within an expression, %v: %v", l, !want)
								}
								if want {
									good++
								}
							}
						}
					}
				}
			}
		}
	}
	if good < 100 {
		t.Errorf("just %d may be", good)
	}
}

func TestHowManyDecls(t *testing.T) {
	sig := Decl{Kind: DSig, Name: "x", Type: Type{Kind: TVar, Name: "a"}}
	for _, top := range []bool{true, false} {
		if !RightDecls(nil, top) || !RightDecls([]Decl{}, top) || !RightDecls(times(api.MaxDecls, sig), top) {
			t.Error("declarations that may be")
		}
		if RightDecls(times(api.MaxDecls+1, sig), top) || RightDecls(times(100000, sig), top) {
			t.Error("too many declarations")
		}
		if RightDecls([]Decl{sig, sig, {}}, top) || RightDecls([]Decl{{}, sig}, top) {
			t.Error("one that may not be")
		}
	}
}

// Each part of a tree that may be is changed to what may be, or may not.
func TestEachChangeOfATree(t *testing.T) {
	m := newMaker(1)
	good, bad := 0, 0
	hold := func(got, want bool, x any) {
		t.Helper()
		if got != want {
			t.Fatalf("%v: %v", x, got)
		}
		if want {
			good++
		} else {
			bad++
		}
	}
	for range 60 {
		ty, p, e, l := m.typ(3), m.pat(3), m.expr(3), m.decls(2, true)
		if !RightType(ty) || !RightPat(p) || !RightExpr(e) || !RightDecls(l, true) {
			t.Fatalf("%v, %v, %v, %v", ty, p, e, l)
		}
		eachChange(&ty, func(bool) { hold(RightType(ty), modelType(ty), ty) })
		eachChange(&p, func(bool) { hold(RightPat(p), modelPat(p), p) })
		eachChange(&e, func(bool) { hold(RightExpr(e), modelExpr(e), e) })
		eachChange(&l, func(bool) {
			hold(RightDecls(l, true), modelDecls(l, true), l)
			hold(RightDecls(l, false), modelDecls(l, false), l)
		})
	}
	if good < 10000 || bad < 10000 {
		t.Errorf("just %d may be, %d may not", good, bad)
	}
}

func TestDepthOfTypesAndPats(t *testing.T) {
	for _, n := range []int{1, 2, 399, 400, 401, 402, 1000, 100000} {
		for i, x := range typeChains(n) {
			if RightType(x) != (n <= 400) {
				t.Errorf("type %d of depth %d", i, n)
			}
		}
		for i, x := range patChains(n) {
			if RightPat(x) != (n <= 400) {
				t.Errorf("pattern %d of depth %d", i, n)
			}
		}
	}
}

func TestDepthOfExprs(t *testing.T) {
	for _, n := range []int{3, 4, 399, 400, 401, 402, 1000, 100000} {
		for i, x := range exprChains(n) {
			if RightExpr(x) != (n <= 400) {
				t.Errorf("expression %d of depth %d", i, n)
			}
			if RightDecls([]Decl{{Kind: DDef, Name: "x", Body: x}}, false) != (n <= 400) {
				t.Errorf("body %d of depth %d", i, n)
			}
		}
	}
}

// Of a type, a pattern or an expression the depth is told by itself.
func TestDepthOfTreesWithinTrees(t *testing.T) {
	for _, n := range []int{400, 401} {
		for _, ty := range typeChains(n) {
			sig := []Decl{{Kind: DSig, Name: "x", Type: ty}}
			data := []Decl{{Kind: DData, Name: "T", Cons: []Cons{{Name: "C", Args: []Type{ty}}}}}
			if RightDecls(sig, false) != (n == 400) || RightDecls(data, true) != (n == 400) {
				t.Errorf("types of depth %d", n)
			}
			for _, e := range exprChains(399) {
				if RightExpr(Expr{Kind: ELet, Decls: sig, Args: []Expr{e}}) != (n == 400) {
					t.Errorf("let, types of depth %d", n)
				}
			}
		}
		for _, p := range patChains(n) {
			for _, e := range exprChains(399) {
				if RightExpr(Expr{Kind: ELam, Pats: []Pat{p}, Args: []Expr{e}}) != (n == 400) {
					t.Errorf("lambda, patterns of depth %d", n)
				}
				if RightExpr(Expr{Kind: ECase, Alts: []Alt{{p, e}}, Args: []Expr{{Kind: EInt}}}) != (n == 400) {
					t.Errorf("case, patterns of depth %d", n)
				}
			}
			if RightDecls([]Decl{{Kind: DDef, Name: "x", Pats: []Pat{p}, Body: Expr{Kind: EInt}}}, true) != (n == 400) {
				t.Errorf("patterns of depth %d", n)
			}
		}
	}
}

// Trees that no source is read as, but that may be.
func TestTreesOfNoSource(t *testing.T) {
	x := Expr{Kind: EName, Name: "x"}
	for i, e := range []Expr{
		{Kind: ELet, Args: []Expr{x}},
		{Kind: ECall, Args: []Expr{{Kind: EInt, N: 1}, {Kind: EChar}}},
		{Kind: EName, At: -7, Name: "x"},
		{Kind: ECase, At: math.MaxInt, Args: []Expr{x}, Alts: []Alt{{Pat{Kind: PStr, Name: "\x00\xff"}, x}}},
		{Kind: ELet, Decls: []Decl{{Kind: DSig, Name: "nowhere", Type: Type{Kind: TCon, Name: "Unknown"}}}, Args: []Expr{x}},
	} {
		if !RightExpr(e) {
			t.Error(i)
		}
	}
	if !RightDecls([]Decl{{Kind: DData, Name: "T", Cons: []Cons{{Name: "C"}, {Name: "C"}}}, {Kind: DData, Name: "T", Cons: []Cons{{Name: "C"}}}}, true) {
		t.Error("cons of the same name")
	}
}
