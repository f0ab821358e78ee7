package datas

import (
	"slices"
	"strconv"
	"strings"
	"testing"

	"hammock/api"
	"hammock/tree"
)

// P802.

func TestBuiltinTypes(t *testing.T) {
	for i, lists := range [][][]tree.Decl{nil, {}, {nil}, {{}}, {nil, {}, nil}, {program(t, "f :: Int; f = 1;")}} {
		x, e := New(lists...)
		if e != api.OK {
			t.Fatal(i, e)
		}
		modelled(t, x, builtinModel())
		if l := x.Types(); strings.Join(l, " ") != "Int Char Bool []" {
			t.Error(i, l)
		}
		if l := x.Rings(); strings.Join(l, " ") != "[]" {
			t.Error(i, l)
		}
	}
}

func TestBuiltinCons(t *testing.T) {
	x := table(t)
	for _, want := range []Con{
		{Name: "False", Type: "Bool", Tag: 0, Of: 2},
		{Name: "True", Type: "Bool", Tag: 1, Of: 2},
		{Name: "[]", Type: "[]", Tag: 0, Of: 2, Vars: []string{"a"}},
		{Name: ":", Type: "[]", Tag: 1, Of: 2, Vars: []string{"a"}, Args: []tree.Type{typVar("a"), typCon("[]", typVar("a"))}},
	} {
		if c, ok := x.Con(want.Name); !ok || !sameCon(c, want) {
			t.Error(c, ok)
		}
		if l, ok := x.Cons(want.Type); !ok || len(l) != 2 || !sameCon(l[want.Tag], want) {
			t.Error(l, ok)
		}
	}
	for _, typ := range []string{"Int", "Char"} {
		if l, ok := x.Cons(typ); !ok || len(l) != 0 {
			t.Error(typ, l, ok)
		}
	}
}

func TestTypesAndConsOfLists(t *testing.T) {
	one := "f :: T; data T = A | B Int T; f = A; data P x y = P y (P [x] Unknown -> z) x;"
	two := "data U = U; data A = T;"
	x := table(t, one, "", "f = 1;", two)
	m, _ := modelNew(program(t, one), program(t, two))
	modelled(t, x, m)
	if l := x.Types(); strings.Join(l, " ") != "Int Char Bool [] T P U A" {
		t.Error(l)
	}
	if c, ok := x.Con("P"); !ok || c.Type != "P" || c.Tag != 0 || c.Of != 1 || strings.Join(c.Vars, "") != "xy" || len(c.Args) != 3 || c.Args[0].Name != "y" || c.Args[0].At != strings.Index(one, "y (") {
		t.Error(c, ok)
	}
	if c, ok := x.Con("B"); !ok || c.Type != "T" || c.Tag != 1 || c.Of != 2 || len(c.Vars) != 0 || len(c.Args) != 2 || c.Args[1].Name != "T" {
		t.Error(c, ok)
	}
	if c, ok := x.Con("T"); !ok || c.Type != "A" || c.Tag != 0 || c.Of != 1 || len(c.Args) != 0 {
		t.Error(c, ok)
	}
	if l, ok := x.Cons("A"); !ok || len(l) != 1 || l[0].Name != "T" {
		t.Error(l, ok)
	}
	// Other lists, and the same ones in another order.
	if l := table(t, two, one).Types(); strings.Join(l, " ") != "Int Char Bool [] U A T P" {
		t.Error(l)
	}
}

func TestOtherNames(t *testing.T) {
	x := table(t, "data T a = A a | B Q;")
	for _, name := range []string{"", "T", "a", "f", "Int", "Bool", "Q", "_", "->", "A ", "a\x00", "true", strings.Repeat("A", 1000)} {
		if c, ok := x.Con(name); ok || !sameCon(c, Con{}) {
			t.Errorf("%q: the con %v", name, c)
		}
	}
	for _, name := range []string{"", "A", "a", "B", "True", ":", "Q", "_", "->", "int", " T", strings.Repeat("A", 1000)} {
		if l, ok := x.Cons(name); ok || len(l) != 0 {
			t.Errorf("%q: the cons %v", name, l)
		}
	}
}

// ended: how New of lists ends; beside an error there is no table.
func ended(t *testing.T, want api.Errno, lists ...[]tree.Decl) {
	t.Helper()
	if x, e := New(lists...); e != want || (x == nil) != (want != api.OK) {
		t.Errorf("%v: %v, %d, not %d", lists, x, e, want)
	}
}

func TestNamesThatAreThere(t *testing.T) {
	for _, c := range []struct {
		sources string // each behind a /
		want    api.Errno
	}{
		{"data Int = A;", api.ErrThere},
		{"data Char a = A;", api.ErrThere},
		{"data Bool = A;", api.ErrThere},
		{"data T = True;", api.ErrThere},
		{"data T = A | False Int | B;", api.ErrThere},
		{"data T = A; data T = B;", api.ErrThere},
		{"data T = A; data T a = B;", api.ErrThere},
		{"data T = A; data U = B; f = 1; data T = C;", api.ErrThere},
		{"data T = A | A;", api.ErrThere},
		{"data T = A | B | A Int;", api.ErrThere},
		{"data T = A; data U = B | A;", api.ErrThere},
		{"data T = A; / data T = B;", api.ErrThere},
		{"data T = A; / data U = A;", api.ErrThere},
		{"data T = A; / data U = B; / data V = B;", api.ErrThere},
		{"data T = A; // f = 1; / data T = B;", api.ErrThere},
		{"data T = A; / data T = A;", api.ErrThere},
		// A type and a con may have one name, and what is no DData makes none.
		{"data T = T; data U = Int | Char T | Bool | U;", api.OK},
		{"data True = A; data False = B; data A = C;", api.OK},
		{"data T = A; / data A = T;", api.OK},
		{"f :: T; f = A; / data T = A; / f :: T; f = A;", api.OK},
		{"data T = A (X Y) B | B Bool [C];", api.OK},
	} {
		var lists [][]tree.Decl
		for _, s := range strings.Split(c.sources, "/") {
			lists = append(lists, program(t, s))
		}
		ended(t, c.want, lists...)
	}
	l := program(t, "data T = A;")
	ended(t, api.ErrThere, l, l)
	ended(t, api.OK, l)
}

func TestListsThatMayNotBe(t *testing.T) {
	right, twice := program(t, "data T = A;"), program(t, "data T = A; data U = A;")
	deep := typVar("a")
	for range 4*api.MaxDeep - 1 {
		deep = typCon("[]", deep)
	}
	ended(t, api.OK, []tree.Decl{dataOf("T", tree.Cons{Name: "A", Args: []tree.Type{deep}})})
	one := tree.Cons{Name: "A"}
	for i, l := range [][]tree.Decl{
		{{}},
		{{Kind: 4, Name: "T", Cons: []tree.Cons{one}}},
		{dataOf("T")},
		{dataOf("t", one)},
		{dataOf("[]", one)},
		{dataOf(":", one)},
		{dataOf("", one)},
		{dataOf("Int")},
		{dataOf("T", tree.Cons{Name: ":"})},
		{dataOf("T", tree.Cons{Name: "[]"})},
		{dataOf("T", tree.Cons{Name: "A", Args: []tree.Type{{}}})},
		{dataOf("T", tree.Cons{Name: "A", Args: []tree.Type{typCon("[]", deep)}})},
		{dataOf("T", tree.Cons{Name: "A", Args: slices.Repeat([]tree.Type{typVar("a")}, api.MaxParts+1)})},
		{dataOf("T", manyCons("A", api.MaxCons+1)...)},
		{{Kind: tree.DData, Name: "T", Vars: []string{"a", "a"}, Cons: []tree.Cons{one}}},
		{{Kind: tree.DSig, Name: "f"}},
		{{Kind: tree.DDef, Name: "f"}},
		{{Kind: tree.DDef, Name: "f", Body: tree.Expr{Kind: tree.ELet, Decls: right, Args: []tree.Expr{{Kind: tree.EInt}}}}},
		append(program(t, "f = 1;"), tree.Decl{}),
		slices.Repeat(program(t, "f = 1;"), api.MaxDecls+1),
	} {
		if tree.RightDecls(l, true) {
			t.Fatal(i)
		}
		ended(t, api.ErrArg, l)
		ended(t, api.ErrArg, right, l)
		ended(t, api.ErrArg, l, right)
		ended(t, api.ErrArg, nil, right, nil, l, nil)
		// ErrArg is named first, wherever the other one is.
		ended(t, api.ErrArg, twice, l)
		ended(t, api.ErrArg, l, twice)
		ended(t, api.ErrArg, right, right, l)
	}
	ended(t, api.OK, slices.Repeat(program(t, "f = 1;"), api.MaxDecls))
}

func manyCons(name string, n int) []tree.Cons {
	var l []tree.Cons
	for i := range n {
		l = append(l, tree.Cons{Name: name + strconv.Itoa(i)})
	}
	return l
}

func TestRandomTables(t *testing.T) {
	ends := map[api.Errno]int{}
	for i := range int64(4000) {
		m := newMaker(i, 1+int(i)%20)
		lists := m.lists(int(i) % 12)
		if i%5 == 0 {
			spoil(m, lists)
		}
		want, e := modelNew(lists...)
		ended(t, e, lists...)
		ends[e]++
		if x, e := New(lists...); e == api.OK {
			modelled(t, x, want)
		}
	}
	if ends[api.ErrThere] < 100 || ends[api.OK] < 1000 {
		t.Error(ends)
	}
}

// spoil: gives one type, or one con, the name of another one.
func spoil(m *maker, lists [][]tree.Decl) {
	l := lists[m.Intn(len(lists))]
	if len(l) == 0 {
		return
	}
	d := &l[m.Intn(len(l))]
	names := []string{"T0", "T1", "T2", "Int", "C0", "C1", "C2", "True"}
	if d.Kind != tree.DData || m.Intn(2) == 0 {
		d.Name = names[m.Intn(len(names))]
		return
	}
	d.Cons = slices.Clone(d.Cons)
	d.Cons[m.Intn(len(d.Cons))].Name = names[m.Intn(len(names))]
}

// P804.

func TestEachTagIsAPlaceAmongItsTypes(t *testing.T) {
	for i := range int64(1000) {
		x, e := New(newMaker(i, 20).lists(int(i) % 15)...)
		if e != api.OK {
			t.Fatal(e)
		}
		for _, typ := range x.Types() {
			l, ok := x.Cons(typ)
			if !ok {
				t.Fatal(typ)
			}
			for tag, c := range l {
				if got, ok := x.Con(c.Name); !ok || !sameCon(got, c) || c.Tag != tag || c.Of != len(l) || c.Type != typ {
					t.Fatalf("%d of %s: %v, %v", tag, typ, c, got)
				}
			}
		}
	}
}

// The greatest declarations that may be: all names, parameters, cons and parts.
func TestTheGreatestDatas(t *testing.T) {
	long := strings.Repeat("T", api.MaxName-1)
	var vars []string
	var args []tree.Type
	for i := range api.MaxParts {
		vars = append(vars, "v"+strconv.Itoa(i))
		args = append(args, typVar(vars[i]))
	}
	cons := manyCons(strings.Repeat("C", api.MaxName-2), api.MaxCons)
	for i := range cons {
		cons[i].Name = (cons[i].Name + "_")[:api.MaxName]
		cons[i].Args = args
	}
	l := []tree.Decl{{Kind: tree.DData, At: 5, Name: long + "1", Vars: vars, Cons: cons}, dataOf(long+"2", tree.Cons{Name: "D"})}
	m, e := modelNew(l)
	if e != api.OK {
		t.Fatal(e)
	}
	x, e := New(l)
	if e != api.OK {
		t.Fatal(e)
	}
	modelled(t, x, m)
}
