package datas

import (
	"strings"

	"hammock/tree"
)

// builtin: types as a source would make them, if it could name them all.
func builtin() []tree.Decl {
	a := tree.Type{Kind: tree.TVar, Name: "a"}
	list := tree.Type{Kind: tree.TCon, Name: "[]", Args: []tree.Type{a}}
	return []tree.Decl{
		{Kind: tree.DData, Name: "Int"},
		{Kind: tree.DData, Name: "Char"},
		{Kind: tree.DData, Name: "Bool", Cons: []tree.Cons{{Name: "False"}, {Name: "True"}}},
		{Kind: tree.DData, Name: "[]", Vars: []string{"a"}, Cons: []tree.Cons{{Name: "[]"}, {Name: ":", Args: []tree.Type{a, list}}}},
	}
}

// add: false, if its name, or one of its cons', is there already.
func (t *Table) add(d *tree.Decl) bool {
	if _, there := t.types[d.Name]; there {
		return false
	}
	name := strings.Clone(d.Name)
	var cons []string
	for tag := range d.Cons {
		c := copied(Con{Name: d.Cons[tag].Name, Type: name, Tag: tag, Of: len(d.Cons), Vars: d.Vars, Args: d.Cons[tag].Args})
		if _, there := t.cons[c.Name]; there {
			return false
		}
		t.cons[c.Name] = c
		cons = append(cons, c.Name)
	}
	t.names = append(t.names, name)
	t.types[name] = data{cons: cons}
	return true
}

// learn: what can be told of each type by its place in a web.
func (t *Table) learn(w *web) {
	plain, ring := w.plain(), w.onRings()
	for i, name := range t.names {
		t.types[name] = data{cons: t.types[name].cons, plain: plain[i]}
		if ring[i] {
			t.rings = append(t.rings, name)
		}
	}
}
