package datas

import (
	"math"
	"reflect"
	"slices"
	"strings"
	"sync"
	"testing"
	"unsafe"

	"hammock/api"
	"hammock/tree"
)

// P801.

func TestTablesThatNewDidNotMake(t *testing.T) {
	for i, x := range []*Table{nil, {}, new(Table)} {
		for _, name := range []string{"", "Int", "Bool", "True", "[]", ":", "T"} {
			if c, ok := x.Con(name); ok || !reflect.DeepEqual(c, Con{}) {
				t.Errorf("%d: the con %q: %v", i, name, c)
			}
			if l, ok := x.Cons(name); ok || len(l) != 0 {
				t.Errorf("%d: the cons of %q: %v", i, name, l)
			}
			for _, y := range []tree.Type{{}, typVar("a"), typCon("Int"), typCon("[]", typVar("a")), typCon(name), typFun(typVar("a"), typVar("a"))} {
				if x.Plain(y) {
					t.Errorf("%d: plain: %v", i, y)
				}
			}
		}
		if l := x.Types(); len(l) != 0 {
			t.Errorf("%d: the types %v", i, l)
		}
		if l := x.Rings(); len(l) != 0 {
			t.Errorf("%d: the rings %v", i, l)
		}
	}
}

// roomy: lists that are always the same ones of a number, in new memory, with room behind.
func roomy(i int64) ([][]tree.Decl, tree.Type) {
	m := newMaker(i, 20)
	lists := m.lists(1 + int(i)%10)
	for k := range lists {
		lists[k] = slices.Grow(lists[k], 3)
	}
	return slices.Grow(lists, 2), m.typ(3, []string{"a"})
}

func TestNothingHandedInIsChanged(t *testing.T) {
	for i := range int64(500) {
		lists, y := roomy(i)
		was, yWas := roomy(i)
		m, _ := modelNew(lists...)
		x, e := New(lists...)
		if e != api.OK {
			t.Fatal(e)
		}
		plain := x.Plain(y)
		for range 2 {
			modelled(t, x, m)
			// What else is asked and made changes nothing.
			New(was[0], was[0])
			x.Con("Unknown")
			x.Cons("Unknown")
			x.Plain(typCon("Unknown"))
			if x.Plain(y) != plain {
				t.Fatalf("%v: plain: %v", lists, !plain)
			}
		}
		if !reflect.DeepEqual(lists, was) || !reflect.DeepEqual(y, yWas) {
			t.Fatalf("%v: changed", was)
		}
		for _, l := range lists[:cap(lists)] {
			for _, d := range l[len(l):cap(l)] {
				if !reflect.DeepEqual(d, tree.Decl{}) {
					t.Fatalf("%v in the room behind", d)
				}
			}
		}
		for _, l := range lists[len(lists):cap(lists)] {
			if l != nil {
				t.Fatalf("%v in the room behind", l)
			}
		}
	}
}

// wipe: spoils all that a list holds, and the room behind it.
func wipe(l []tree.Decl) {
	for _, d := range l[:cap(l)] {
		for _, c := range d.Cons[:cap(d.Cons)] {
			wipeTypes(c.Args)
		}
		clear(d.Cons[:cap(d.Cons)])
		wipeTypes(d.Type.Args)
	}
	clear(l[:cap(l)])
}

func wipeTypes(l []tree.Type) {
	for _, x := range l[:cap(l)] {
		wipeTypes(x.Args)
	}
	clear(l[:cap(l)])
}

func wipeCon(c Con) {
	clear(c.Vars[:cap(c.Vars)])
	wipeTypes(c.Args)
}

func wipeCons(l []Con) {
	for _, c := range l[:cap(l)] {
		wipeCon(c)
	}
	clear(l[:cap(l)])
}

// A table stays what it is, whatever is done with what was handed in and told.
func TestWhatIsToldAndHandedInIsApart(t *testing.T) {
	for i := range int64(300) {
		lists, _ := roomy(i)
		again, _ := roomy(i)
		m, _ := modelNew(again...)
		x, e := New(lists...)
		if e != api.OK {
			t.Fatal(e)
		}
		other, _ := New(lists...)
		for _, l := range lists {
			wipe(l)
		}
		for _, d := range m {
			l, _ := x.Cons(d.Name)
			for _, c := range l {
				one, _ := x.Con(c.Name)
				two, _ := x.Con(c.Name)
				wipeCon(one)
				if !sameCon(two, c) {
					t.Fatalf("%v: %v", c, two)
				}
			}
			wipeCons(l)
		}
		for _, l := range [][]string{x.Types(), x.Rings()} {
			clear(l[:cap(l)])
		}
		modelled(t, x, m)
		modelled(t, other, m)
	}
}

// textsOf: all texts of some cons.
func textsOf(l ...Con) []string {
	var texts []string
	for _, c := range l {
		texts = append(append(texts, c.Name, c.Type), c.Vars...)
		texts = append(texts, namesOf(c.Args)...)
	}
	return texts
}

func namesOf(l []tree.Type) []string {
	var names []string
	for _, x := range l {
		names = append(append(names, x.Name), namesOf(x.Args)...)
	}
	return names
}

// ownTexts: what a table itself holds.
func ownTexts(x *Table) []string {
	var texts []string
	for name, d := range x.types {
		texts = append(append(texts, name), d.cons...)
	}
	for name, c := range x.cons {
		texts = append(append(texts, name), textsOf(c)...)
	}
	return texts
}

func TestTextsAreNewMemory(t *testing.T) {
	typ, con, v := strings.Repeat("T", 9), strings.Repeat("C", 9), strings.Repeat("v", 9)
	args := []tree.Type{typVar(v), typCon("[]", typCon(typ, typVar(v)))}
	l := []tree.Decl{{Kind: tree.DData, Name: typ, Vars: []string{v}, Cons: []tree.Cons{{Name: con, Args: args}, {Name: con[1:], Args: args}}}}
	x, _ := New(l)
	y, _ := New(l)
	apart := [][]string{{typ, con, v}, ownTexts(x), ownTexts(y)}
	for _, x := range []*Table{x, x, y} {
		one, _ := x.Con(con)
		both, _ := x.Cons(typ)
		for _, s := range slices.Concat(textsOf(one), textsOf(both...), x.Types()[4:], x.Rings()[1:]) {
			apart = append(apart, []string{s})
		}
	}
	if len(apart) != 3+3*(3*7+2) {
		t.Fatalf("%d: %q", len(apart), apart)
	}
	for i, texts := range apart {
		for _, others := range apart[:i] {
			if s, shared := sharedBy(texts, others); shared {
				t.Errorf("%q is shared by %q and %q", s, texts, others)
			}
		}
	}
}

// sharedBy: does a text of one list share memory with one of the other list? (Texts of few bytes may be constants.)
func sharedBy(a, b []string) (string, bool) {
	for _, s := range a {
		for _, other := range b {
			from, to := uintptr(unsafe.Pointer(unsafe.StringData(s))), uintptr(unsafe.Pointer(unsafe.StringData(other)))
			if len(s) > 4 && len(other) > 4 && from < to+uintptr(len(other)) && to < from+uintptr(len(s)) {
				return s, true
			}
		}
	}
	return "", false
}

func TestListsOfOneAnswerAreApart(t *testing.T) {
	x := table(t, "data T a b = A a [b] | B a (T [a] (b -> a)) | C;")
	for _, name := range []string{"T", "[]"} {
		l, _ := x.Cons(name)
		for i := range l {
			wipeCon(l[i])
			m, _ := x.Cons(name)
			for k := i + 1; k < len(l); k++ {
				if !sameCon(l[k], m[k]) {
					t.Errorf("%v shares memory with %v", l[k], l[i])
				}
			}
		}
	}
}

func TestNilAndEmptyMeanTheSame(t *testing.T) {
	con := tree.Cons{Name: "A", Args: []tree.Type{{Kind: tree.TCon, Name: "Int", Args: []tree.Type{}}, {Kind: tree.TVar, Name: "a"}}}
	full := tree.Decl{Kind: tree.DData, Name: "T", Vars: []string{}, Cons: []tree.Cons{con}, Pats: []tree.Pat{}, Type: tree.Type{Args: []tree.Type{}}}
	bare := dataOf("T", tree.Cons{Name: "A", Args: []tree.Type{typCon("Int"), typVar("a")}})
	m := append(builtinModel(), bare)
	for _, lists := range [][][]tree.Decl{{{full}}, {{bare}}, {nil, {full}, {}}, {{}, {bare}, nil}} {
		x, e := New(lists...)
		if e != api.OK {
			t.Fatal(e)
		}
		modelled(t, x, m)
		if !x.Plain(tree.Type{Kind: tree.TCon, Name: "T", Args: []tree.Type{}}) || !x.Plain(tree.Type{Kind: tree.TCon, Name: "T"}) {
			t.Error("plain")
		}
	}
}

func TestAnyArgumentIsAnswered(t *testing.T) {
	x := table(t, "data T a = A a | B (T [a]);")
	m, _ := modelNew(program(t, "data T a = A a | B (T [a]);"))
	numbers := []int{math.MinInt, -1, 0, 1, 2, 3, 4, math.MaxInt}
	names := []string{"", "a", "A", "T", "Int", "_", ":", "[]", "->", "let", "\x00", strings.Repeat("a", 300), strings.Repeat("T", 100000)}
	for _, kind := range numbers {
		for _, at := range numbers {
			for _, s := range names {
				for k := range 4 {
					y := tree.Type{Kind: kind, At: at, Name: s, Args: slices.Repeat([]tree.Type{typVar("a")}, k)}
					inner := typCon("[]", y)
					if x.Plain(y) != m.plain(y) || x.Plain(inner) != m.plain(inner) {
						t.Fatalf("%v: plain: %v", y, x.Plain(y))
					}
					cons := []tree.Cons{{At: at, Name: s, Args: []tree.Type{y}}}
					for _, d := range []tree.Decl{
						{Kind: kind, At: at, Name: s, Vars: slices.Repeat([]string{s}, k), Cons: cons},
						{Kind: kind, At: at, Name: s, Cons: cons[:0]},
						{Kind: kind, At: at, Name: "U", Cons: slices.Repeat(cons, k)},
						{Kind: kind, At: at, Name: s, Type: y},
						{Kind: kind, At: at, Name: "f", Type: y, Cons: cons},
					} {
						want, e := modelNew([]tree.Decl{d})
						ended(t, e, []tree.Decl{d})
						if z, e := New([]tree.Decl{d}); e == api.OK {
							modelled(t, z, want)
						}
					}
				}
			}
		}
	}
	deep := typVar("a")
	for range 200000 {
		deep = typCon("[]", deep)
	}
	if x.Plain(deep) {
		t.Error("of a type that is too deep")
	}
	ended(t, api.ErrArg, []tree.Decl{dataOf("U", tree.Cons{Name: "C", Args: []tree.Type{deep}})})
}

func TestCallsAtOneTime(t *testing.T) {
	m := newMaker(3, 20)
	lists := m.lists(30)
	want, _ := modelNew(lists...)
	x, e := New(lists...)
	if e != api.OK {
		t.Fatal(e)
	}
	var all sync.WaitGroup
	for range 8 {
		all.Go(func() {
			for range 10 {
				if l := x.Rings(); !slices.Equal(l, want.rings()) {
					t.Error(l)
				}
				for _, d := range want {
					if l, ok := x.Cons(d.Name); !ok || len(l) != len(d.Cons) {
						t.Error(l)
					}
					x.Plain(typCon(d.Name))
				}
			}
		})
	}
	all.Wait()
}
