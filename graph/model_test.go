package graph

import (
	"math/rand"
	"slices"

	"hammock/api"
)

// The model goes another way round: it asks of each pair of nodes whether a road leads from one to the other.

const most = 2 * api.MaxDecls

// row: of each node, does a road lead to it?
type row [most / 64]uint64

func (r *row) has(a int) bool { return r[a/64]>>(a%64)&1 == 1 }

func (r *row) add(a int) { r[a/64] |= 1 << (a % 64) }

// modelRoads: of each node where its roads lead to, found by letting them lead through one node more at a time.
func modelRoads(n int, edges [][2]int) []row {
	roads := make([]row, n)
	for a := range roads {
		roads[a].add(a)
	}
	for _, edge := range edges {
		roads[edge[0]].add(edge[1])
	}
	for through := range roads {
		for a := range roads {
			if roads[a].has(through) {
				for i := range roads[a] {
					roads[a][i] |= roads[through][i]
				}
			}
		}
	}
	return roads
}

func modelReach(roads []row, from int) []int {
	var l []int
	for b := range roads {
		if roads[from].has(b) {
			l = append(l, b)
		}
	}
	return l
}

// modelGroups: again and again the least node is sought whose group needs only what is told already.
func modelGroups(roads []row) [][]int {
	back := make([]row, len(roads))
	for a := range roads {
		for _, b := range modelReach(roads, a) {
			back[b].add(a)
		}
	}
	var told row
	ready := func(a int) bool {
		for i, there := range told {
			if roads[a][i]&^back[a][i]&^there != 0 {
				return false
			}
		}
		return !told.has(a)
	}
	var l [][]int
	for a := 0; a < len(roads); {
		if !ready(a) {
			a++
			continue
		}
		group := slices.DeleteFunc(modelReach(roads, a), func(b int) bool { return !back[a].has(b) })
		l = append(l, group)
		for _, b := range group {
			told.add(b)
		}
		a = 0
	}
	return l
}

func modelOrder(edges [][2]int, groups [][]int) ([]int, bool) {
	for _, edge := range edges {
		if edge[0] == edge[1] {
			return nil, false
		}
	}
	for _, group := range groups {
		if len(group) > 1 {
			return nil, false
		}
	}
	return slices.Concat(groups...), true
}

// randomGraph: always the same one of a seed. Of some the edges lead downward only, or hardly ever upward, so that there are few rings.
func randomGraph(seed int64, n int) [][2]int {
	r := rand.New(rand.NewSource(seed))
	edges := make([][2]int, 0, 3*n)
	if n == 0 {
		return edges
	}
	up := []int{1, 2, 8, 30, 1 << 40}[r.Intn(5)]
	names := r.Perm(n)
	for range r.Intn(3*n + 1) {
		a, b := r.Intn(n), r.Intn(n)
		if a <= b && r.Intn(up) > 0 {
			a, b = b, a
			if a == b {
				continue
			}
		}
		edges = append(edges, [2]int{names[a], names[b]})
	}
	return edges
}

// smallGraph: the edges of a graph of n nodes whose bits are these.
func smallGraph(n int, bits int) [][2]int {
	var edges [][2]int
	for i := range n * n {
		if bits>>i&1 == 1 {
			edges = append(edges, [2]int{i / n, i % n})
		}
	}
	return edges
}

func sameGroups(a, b [][]int) bool { return slices.EqualFunc(a, b, slices.Equal) }
