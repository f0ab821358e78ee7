package datas

import (
	"slices"
	"testing"

	"hammock/api"
	"hammock/parse"
	"hammock/tree"
)

// The model keeps a list of the DDatas alone, and goes through all of it for each question.
type model []tree.Decl

// builtinModel: the builtin types as they stand in the chapter.
func builtinModel() model {
	return model{
		{Name: "Int"},
		{Name: "Char"},
		{Name: "Bool", Cons: []tree.Cons{{Name: "False"}, {Name: "True"}}},
		{Name: "[]", Vars: []string{"a"}, Cons: []tree.Cons{{Name: "[]"}, {Name: ":", Args: []tree.Type{typVar("a"), typCon("[]", typVar("a"))}}}},
	}
}

func modelNew(lists ...[]tree.Decl) (model, api.Errno) {
	m := builtinModel()
	for _, l := range lists {
		if !tree.RightDecls(l, true) {
			return nil, api.ErrArg
		}
		m = append(m, slices.DeleteFunc(slices.Clone(l), func(d tree.Decl) bool { return d.Kind != tree.DData })...)
	}
	if twice(m.names()) || twice(m.cons()) {
		return nil, api.ErrThere
	}
	return m, api.OK
}

func twice(names []string) bool {
	l := slices.Clone(names)
	slices.Sort(l)
	return len(slices.Compact(l)) < len(names)
}

func (m model) names() []string {
	var l []string
	for _, d := range m {
		l = append(l, d.Name)
	}
	return l
}

func (m model) cons() []string {
	var l []string
	for _, d := range m {
		for _, c := range d.Cons {
			l = append(l, c.Name)
		}
	}
	return l
}

// args: of all cons of the type of that name.
func (m model) args(name string) []tree.Type {
	var l []tree.Type
	for _, d := range m {
		for _, c := range d.Cons {
			if d.Name == name {
				l = append(l, c.Args...)
			}
		}
	}
	return l
}

// namesIn: the names of the types in one of these, TFun as ->.
func namesIn(l []tree.Type) []string {
	var names []string
	for _, x := range l {
		switch x.Kind {
		case tree.TCon:
			names = append(names, x.Name)
		case tree.TFun:
			names = append(names, "->")
		}
		names = append(names, namesIn(x.Args)...)
	}
	return names
}

// closed: these names, and those in the Args of their cons, and so on.
func (m model) closed(names []string) []string {
	var l []string
	for len(names) > 0 {
		if !slices.Contains(l, names[0]) {
			l = append(l, names[0])
			names = append(names, namesIn(m.args(names[0]))...)
		}
		names = names[1:]
	}
	return l
}

func (m model) plain(x tree.Type) bool {
	if !tree.RightType(x) {
		return false
	}
	for _, name := range m.closed(namesIn([]tree.Type{x})) {
		if !slices.Contains(m.names(), name) {
			return false
		}
	}
	return true
}

func (m model) rings() []string {
	return slices.DeleteFunc(m.names(), func(name string) bool {
		return !slices.Contains(m.closed(namesIn(m.args(name))), name)
	})
}

func typVar(name string) tree.Type { return tree.Type{Kind: tree.TVar, Name: name} }

func typCon(name string, args ...tree.Type) tree.Type {
	return tree.Type{Kind: tree.TCon, Name: name, Args: args}
}

func typFun(a, b tree.Type) tree.Type {
	return tree.Type{Kind: tree.TFun, Args: []tree.Type{a, b}}
}

func dataOf(name string, cons ...tree.Cons) tree.Decl {
	return tree.Decl{Kind: tree.DData, Name: name, Cons: cons}
}

func program(t *testing.T, s string) []tree.Decl {
	t.Helper()
	l, f := parse.Program(s)
	if f.E != api.OK {
		t.Fatalf("%q: %v", s, f)
	}
	return l
}

func typed(t *testing.T, s string) tree.Type {
	t.Helper()
	x, f := parse.Type(s)
	if f.E != api.OK {
		t.Fatalf("%q: %v", s, f)
	}
	return x
}

// table: of sources, each a list of its own.
func table(t *testing.T, sources ...string) *Table {
	t.Helper()
	var lists [][]tree.Decl
	for _, s := range sources {
		lists = append(lists, program(t, s))
	}
	x, e := New(lists...)
	if e != api.OK || x == nil {
		t.Fatalf("%q: %v, %d", sources, x, e)
	}
	return x
}

// modelled: is all that a table tells of its types and cons what the model tells?
func modelled(t *testing.T, x *Table, m model) {
	t.Helper()
	if l := x.Types(); !slices.Equal(l, m.names()) {
		t.Fatalf("%v: the types %q", m, l)
	}
	if l := x.Rings(); !slices.Equal(l, m.rings()) {
		t.Fatalf("%v: the rings %q, not %q", m, l, m.rings())
	}
	for _, d := range m {
		l, ok := x.Cons(d.Name)
		if !ok || len(l) != len(d.Cons) {
			t.Fatalf("%v: the cons %v, %v", d, l, ok)
		}
		for tag, c := range d.Cons {
			want := Con{Name: c.Name, Type: d.Name, Tag: tag, Of: len(d.Cons), Vars: d.Vars, Args: c.Args}
			if got, ok := x.Con(c.Name); !ok || !sameCon(got, want) || !sameCon(l[tag], want) {
				t.Fatalf("%v: the con %v, %v, and %v", want, got, ok, l[tag])
			}
		}
		if y := typCon(d.Name, slices.Repeat([]tree.Type{typCon("Int")}, len(d.Vars))...); x.Plain(y) != m.plain(y) {
			t.Fatalf("%v: plain of %s: %v", m, d.Name, x.Plain(y))
		}
	}
}

// sameCon: the same with its places, a list of nothing being no list.
func sameCon(a, b Con) bool {
	return a.Name == b.Name && a.Type == b.Type && a.Tag == b.Tag && a.Of == b.Of &&
		slices.Equal(a.Vars, b.Vars) && slices.EqualFunc(a.Args, b.Args, sameType)
}

func sameType(a, b tree.Type) bool {
	return a.Kind == b.Kind && a.At == b.At && a.Name == b.Name && slices.EqualFunc(a.Args, b.Args, sameType)
}
