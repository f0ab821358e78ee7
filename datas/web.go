package datas

import (
	"slices"

	"hammock/tree"
)

// web: which types name which in their cons' Args, by their places in the order of the types. (Package graph takes no more nodes and edges than MaxDecls and MaxTokens let it; a table may have more of both.)
type web struct {
	names, namedBy [][]int
	odd            []int // the types in whose cons' Args is a function, or a type that is not there
}

func newWeb(t *Table) *web {
	w := &web{names: make([][]int, len(t.names)), namedBy: make([][]int, len(t.names))}
	place := map[string]int{}
	for i, name := range t.names {
		place[name] = i
	}
	for i, name := range t.names {
		for _, con := range t.types[name].cons {
			w.add(i, t.cons[con].Args, place)
		}
	}
	return w
}

// add: what types name in a con's Args.
func (w *web) add(from int, args []tree.Type, place map[string]int) {
	for i := range args {
		x := &args[i]
		to, there := place[x.Name]
		switch {
		case x.Kind == tree.TCon && there:
			w.names[from] = append(w.names[from], to)
			w.namedBy[to] = append(w.namedBy[to], from)
		case x.Kind != tree.TVar:
			w.odd = append(w.odd, from)
		}
		w.add(from, x.Args, place)
	}
}

// plain: of each type, does no road lead from it to an odd one?
func (w *web) plain() []bool {
	plain := slices.Repeat([]bool{true}, len(w.names))
	for _, i := range spread(w.namedBy, make([]bool, len(w.names)), w.odd...) {
		plain[i] = false
	}
	return plain
}

// onRings: of each type, does a road lead from it to itself?
func (w *web) onRings() []bool {
	ring, seen := make([]bool, len(w.names)), make([]bool, len(w.names))
	order := finished(w.names)
	// What leads to the one that is finished last is led to by it, too: else it would have been finished later.
	for _, i := range slices.Backward(order) {
		group := spread(w.namedBy, seen, i)
		for _, k := range group {
			ring[k] = len(group) > 1 || slices.Contains(w.names[k], k)
		}
	}
	return ring
}

// spread: some nodes and those to which roads lead from them, but none that was seen already; all these are seen from now on.
func spread(next [][]int, seen []bool, from ...int) []int {
	var l []int
	put := func(nodes []int) {
		for _, i := range nodes {
			if !seen[i] {
				seen[i] = true
				l = append(l, i)
			}
		}
	}
	put(from)
	for k := 0; k < len(l); k++ {
		put(next[l[k]])
	}
	return l
}

// finished: the nodes of a walk along all roads in the order in which it leaves them for good. Its stack stands in place of calls, since roads may be long.
func finished(next [][]int) []int {
	const entered, left = 1, 2
	state := make([]int, len(next))
	var order, ahead []int
	for i := range next {
		ahead = append(ahead, i)
		for len(ahead) > 0 {
			k := ahead[len(ahead)-1]
			if state[k] == 0 {
				state[k] = entered
				// One may stand there more than once: the walk goes on from it as soon as it comes to the top, and it has been left when it does so again.
				for _, to := range next[k] {
					if state[to] == 0 {
						ahead = append(ahead, to)
					}
				}
				continue
			}
			ahead = ahead[:len(ahead)-1]
			if state[k] == entered {
				state[k] = left
				order = append(order, k)
			}
		}
	}
	return order
}
