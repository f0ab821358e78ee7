package datas

import (
	"math/rand"
	"strconv"

	"hammock/tree"
)

// maker: makes lists of declarations at random, always the same ones. One name, or type, of so many is odd.
type maker struct {
	*rand.Rand
	odd   int
	types []string
	cons  int
}

func newMaker(seed int64, odd int) *maker {
	return &maker{Rand: rand.New(rand.NewSource(seed)), odd: odd}
}

func (m *maker) isOdd() bool { return m.odd > 0 && m.Intn(m.odd) == 0 }

// lists: of that many types in all, with other declarations between them.
func (m *maker) lists(types int) [][]tree.Decl {
	m.types = nil
	for i := range types {
		m.types = append(m.types, "T"+strconv.Itoa(i))
	}
	lists := make([][]tree.Decl, 1+m.Intn(4))
	for _, i := range m.Perm(types) {
		l := &lists[m.Intn(len(lists))]
		*l = append(*l, m.data(m.types[i]))
		switch m.Intn(4) {
		case 0:
			*l = append(*l, tree.Decl{Kind: tree.DSig, At: m.Intn(100), Name: "f", Type: m.typ(2, []string{"a"})})
		case 1:
			*l = append(*l, tree.Decl{Kind: tree.DDef, At: m.Intn(100), Name: "f", Body: tree.Expr{Kind: tree.EInt, N: 1}})
		}
	}
	return lists
}

func (m *maker) data(name string) tree.Decl {
	d := tree.Decl{Kind: tree.DData, At: m.Intn(100), Name: name, Vars: []string{"a", "b", "c"}[:m.Intn(4)]}
	for range 1 + m.Intn(3) {
		c := tree.Cons{At: m.Intn(100), Name: "C" + strconv.Itoa(m.cons)}
		m.cons++
		for range m.Intn(3) {
			c.Args = append(c.Args, m.typ(m.Intn(3), d.Vars))
		}
		d.Cons = append(d.Cons, c)
	}
	return d
}

func (m *maker) typ(deep int, vars []string) tree.Type {
	x := tree.Type{Kind: tree.TCon, At: m.Intn(100) - 9}
	n := 0
	switch {
	case m.isOdd():
		x.Name = []string{"Unknown", "True", "C0", "T99"}[m.Intn(4)]
	case m.isOdd() && deep > 0:
		x.Kind, n = tree.TFun, 2
	case len(vars) > 0 && m.Intn(3) == 0:
		x.Kind, x.Name = tree.TVar, vars[m.Intn(len(vars))]
	case deep > 0 && m.Intn(4) == 0:
		x.Name, n = "[]", 1
	case len(m.types) == 0 || m.Intn(4) == 0:
		x.Name = []string{"Int", "Char", "Bool"}[m.Intn(3)]
	default:
		x.Name, n = m.types[m.Intn(len(m.types))], min(deep, m.Intn(3))
	}
	for range n {
		x.Args = append(x.Args, m.typ(deep-1, vars))
	}
	return x
}
