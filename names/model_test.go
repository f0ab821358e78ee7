package names

import (
	"cmp"
	"maps"
	"slices"
	"strings"

	"hammock/api"
	"hammock/tree"
)

// The model: names are told from the top down, with all that is known at a place, and not from the bottom up.

func modelBuiltin() []string {
	return strings.Fields("+ - * / % == /= < <= > >= && || ++ ord chr")
}

// modelNames: of all clauses, each as often as there are clauses.
func modelNames(l []tree.Decl) []string {
	var names []string
	for _, d := range l {
		if d.Kind == 3 {
			names = append(names, d.Name)
		}
	}
	return names
}

func modelBinds(l ...tree.Pat) []string {
	var names []string
	for _, p := range l {
		switch p.Kind {
		case 2:
			names = append(names, p.Name)
		case 6:
			names = append(names, modelBinds(p.Args...)...)
		}
	}
	return names
}

// modelFree: the sentence of the chapter, with sets.
func modelFree(e tree.Expr) map[string]bool {
	free := map[string]bool{}
	if e.Kind == 1 {
		free[e.Name] = true
	}
	for _, x := range e.Args {
		maps.Copy(free, modelFree(x))
	}
	for _, d := range e.Decls {
		if d.Kind == 3 {
			maps.Copy(free, without(modelFree(d.Body), modelBinds(d.Pats...)))
		}
	}
	free = without(free, slices.Concat(modelBinds(e.Pats...), modelNames(e.Decls)))
	for _, a := range e.Alts {
		maps.Copy(free, without(modelFree(a.Body), modelBinds(a.Pat)))
	}
	return free
}

func without(set map[string]bool, names []string) map[string]bool {
	for _, name := range names {
		delete(set, name)
	}
	return set
}

func rising(set map[string]bool) []string { return slices.Sorted(maps.Keys(set)) }

// model: all faults of a program.
type model struct {
	types, cons map[string]int
	faults      []api.Fault
}

// modelFaults: by places, those of one place by numbers.
func modelFaults(outer, l []tree.Decl) []api.Fault {
	m := model{
		types: map[string]int{"Int": 0, "Char": 0, "Bool": 0, "[]": 1},
		cons:  map[string]int{"True": 0, "False": 0, "[]": 0, ":": 2},
	}
	m.datas(outer)
	m.faults = nil
	m.datas(l)
	for _, d := range l {
		for _, c := range d.Cons {
			for _, x := range c.Args {
				m.typ(x, func(name string) bool { return slices.Contains(d.Vars, name) })
			}
		}
	}
	m.block(l, slices.Concat(modelBuiltin(), modelNames(outer), modelNames(l)))
	slices.SortFunc(m.faults, func(a, b api.Fault) int {
		return cmp.Or(cmp.Compare(a.At, b.At), cmp.Compare(a.E, b.E))
	})
	return m.faults
}

// put: a fault, if it is one.
func (m *model) put(is bool, at int, e api.Errno) {
	if is {
		m.faults = append(m.faults, api.Fault{At: at, E: e})
	}
}

func (m *model) datas(l []tree.Decl) {
	for _, d := range l {
		if d.Kind != 1 {
			continue
		}
		_, there := m.types[d.Name]
		m.put(there, d.At, api.ErrTwice)
		if !there {
			m.types[d.Name] = len(d.Vars)
		}
		for _, c := range d.Cons {
			_, there := m.cons[c.Name]
			m.put(there, c.At, api.ErrTwice)
			if !there {
				m.cons[c.Name] = len(c.Args)
			}
		}
	}
}

func (m *model) typ(t tree.Type, isVar func(string) bool) {
	n, there := m.types[t.Name]
	m.put(t.Kind == 1 && !isVar(t.Name), t.At, api.ErrScope)
	m.put(t.Kind == 2 && !there, t.At, api.ErrScope)
	m.put(t.Kind == 2 && there && n != len(t.Args), t.At, api.ErrCount)
	for _, x := range t.Args {
		m.typ(x, isVar)
	}
}

func (m *model) block(l []tree.Decl, known []string) {
	var sigs []string
	var clauses []tree.Decl
	for _, d := range l {
		switch d.Kind {
		case 2:
			m.put(slices.Contains(sigs, d.Name), d.At, api.ErrTwice)
			m.put(!slices.Contains(modelNames(l), d.Name), d.At, api.ErrMiss)
			sigs = append(sigs, d.Name)
			m.typ(d.Type, func(string) bool { return true })
		case 3:
			m.clause(d, clauses)
			clauses = append(clauses, d)
			m.pats(d.Pats...)
			m.expr(d.Body, slices.Concat(known, modelBinds(d.Pats...)))
		}
	}
}

// clause: ahead has those ahead of it in its block.
func (m *model) clause(d tree.Decl, ahead []tree.Decl) {
	isOfName := func(other tree.Decl) bool { return other.Name == d.Name }
	if n := len(ahead); n > 0 && isOfName(ahead[n-1]) {
		m.put(len(d.Pats) == 0, d.At, api.ErrTwice)
		m.put(len(d.Pats) > 0 && len(d.Pats) != len(ahead[n-1].Pats), d.At, api.ErrCount)
		return
	}
	m.put(slices.ContainsFunc(ahead, isOfName), d.At, api.ErrTwice)
}

func (m *model) pats(l ...tree.Pat) {
	var left []string
	var all func(l []tree.Pat)
	all = func(l []tree.Pat) {
		for _, p := range l {
			n, there := m.cons[p.Name]
			m.put(p.Kind == 2 && slices.Contains(left, p.Name), p.At, api.ErrTwice)
			m.put(p.Kind == 6 && !there, p.At, api.ErrScope)
			m.put(p.Kind == 6 && there && n != len(p.Args), p.At, api.ErrCount)
			if p.Kind == 2 {
				left = append(left, p.Name)
			}
			all(p.Args)
		}
	}
	all(l)
}

func (m *model) expr(e tree.Expr, known []string) {
	_, there := m.cons[e.Name]
	m.put(e.Kind == 1 && !slices.Contains(known, e.Name), e.At, api.ErrScope)
	m.put(e.Kind == 2 && !there, e.At, api.ErrScope)
	if e.Kind == 7 {
		m.pats(e.Pats...)
	}
	for _, a := range e.Alts {
		m.pats(a.Pat)
		m.expr(a.Body, slices.Concat(known, modelBinds(a.Pat)))
	}
	known = slices.Concat(known, modelBinds(e.Pats...), modelNames(e.Decls))
	if e.Kind == 8 {
		m.block(e.Decls, known)
	}
	for _, x := range e.Args {
		m.expr(x, known)
	}
}
