package graph

import (
	"slices"
	"testing"

	"hammock/api"
)

// P702: what is told.

func TestGroupsAndOrder(t *testing.T) {
	for _, c := range []struct {
		n      int
		edges  [][2]int
		groups [][]int
		order  []int
		ok     bool
	}{
		{0, nil, nil, nil, true},
		{1, nil, [][]int{{0}}, []int{0}, true},
		{1, [][2]int{{0, 0}}, [][]int{{0}}, nil, false},
		{3, [][2]int{{0, 1}, {1, 0}, {1, 2}}, [][]int{{2}, {0, 1}}, nil, false},
		{3, nil, [][]int{{0}, {1}, {2}}, []int{0, 1, 2}, true},
		{3, [][2]int{{0, 1}, {1, 2}}, [][]int{{2}, {1}, {0}}, []int{2, 1, 0}, true},
		{3, [][2]int{{2, 1}, {1, 0}}, [][]int{{0}, {1}, {2}}, []int{0, 1, 2}, true},
		{3, [][2]int{{0, 2}, {1, 2}, {0, 1}, {0, 2}}, [][]int{{2}, {1}, {0}}, []int{2, 1, 0}, true},
		// What becomes ready comes ahead of what was ready longer, if its node is less.
		{4, [][2]int{{0, 2}}, [][]int{{1}, {2}, {0}, {3}}, []int{1, 2, 0, 3}, true},
		{5, [][2]int{{1, 2}, {0, 4}}, [][]int{{2}, {1}, {3}, {4}, {0}}, []int{2, 1, 3, 4, 0}, true},
		// A group comes by its least node, not by the one that is met first or stands last.
		{5, [][2]int{{0, 4}, {4, 0}, {1, 3}, {3, 1}}, [][]int{{0, 4}, {1, 3}, {2}}, nil, false},
		{6, [][2]int{{5, 3}, {3, 1}, {1, 5}, {2, 5}}, [][]int{{0}, {1, 3, 5}, {2}, {4}}, nil, false},
		// Two rings with a node in common are one group; two that an edge leads between are not.
		{5, [][2]int{{0, 1}, {1, 0}, {1, 2}, {2, 1}, {3, 4}, {4, 3}}, [][]int{{0, 1, 2}, {3, 4}}, nil, false},
		{4, [][2]int{{0, 1}, {1, 0}, {1, 2}, {2, 3}, {3, 2}}, [][]int{{2, 3}, {0, 1}}, nil, false},
		// An edge to a group that is told already leads back to nothing.
		{4, [][2]int{{0, 1}, {0, 2}, {2, 1}, {2, 3}, {3, 1}}, [][]int{{1}, {3}, {2}, {0}}, []int{1, 3, 2, 0}, true},
		// Who needs itself is a group that stands where it would stand else.
		{3, [][2]int{{1, 1}, {0, 1}}, [][]int{{1}, {0}, {2}}, nil, false},
	} {
		if l, e := Groups(c.n, c.edges); e != api.OK || !sameGroups(l, c.groups) {
			t.Errorf("%d %v: the groups %v, %d, not %v", c.n, c.edges, l, e, c.groups)
		}
		if l, ok := Order(c.n, c.edges); ok != c.ok || !slices.Equal(l, c.order) {
			t.Errorf("%d %v: the order %v, %v, not %v", c.n, c.edges, l, ok, c.order)
		}
	}
}

func TestReach(t *testing.T) {
	edges := [][2]int{{0, 3}, {3, 5}, {5, 0}, {1, 0}, {4, 4}, {6, 2}, {6, 1}}
	for from, want := range [][]int{{0, 3, 5}, {0, 1, 3, 5}, {2}, {0, 3, 5}, {4}, {0, 3, 5}, {0, 1, 2, 3, 5, 6}} {
		if l, e := Reach(7, edges, from); e != api.OK || !slices.Equal(l, want) {
			t.Errorf("from %d: %v, %d, not %v", from, l, e, want)
		}
	}
}

// modelled: is all that is told of a graph what the model tells?
func modelled(t *testing.T, n int, edges [][2]int) {
	t.Helper()
	roads := modelRoads(n, edges)
	groups := modelGroups(roads)
	if l, e := Groups(n, edges); e != api.OK || !sameGroups(l, groups) {
		t.Fatalf("%d %v: the groups %v, %d, not %v", n, edges, l, e, groups)
	}
	order, right := modelOrder(edges, groups)
	if l, ok := Order(n, edges); ok != right || !slices.Equal(l, order) {
		t.Fatalf("%d %v: the order %v, %v, not %v", n, edges, l, ok, order)
	}
	for from := range n {
		want := modelReach(roads, from)
		if l, e := Reach(n, edges, from); e != api.OK || !slices.Equal(l, want) {
			t.Fatalf("%d %v: from %d %v, %d, not %v", n, edges, from, l, e, want)
		}
	}
}

func TestAllSmallGraphs(t *testing.T) {
	for n := range 5 {
		for bits := range 1 << (n * n) {
			modelled(t, n, smallGraph(n, bits))
		}
	}
}

func TestRandomGraphs(t *testing.T) {
	for i := range int64(4000) {
		n := int(i) % 40
		modelled(t, n, randomGraph(i, n))
	}
}

// The greatest graphs: longest roads, widest nodes, most edges.

func greatGraphs() map[string][][2]int {
	l := map[string][][2]int{"none": nil}
	for i := range most {
		if i+1 < most {
			l["down"] = append(l["down"], [2]int{i, i + 1})
			l["up"] = append(l["up"], [2]int{i + 1, i})
			l["both ways"] = append(l["both ways"], [2]int{i, i + 1}, [2]int{i + 1, i})
		}
		l["ring"] = append(l["ring"], [2]int{i, (i + 1) % most})
		l["pairs"] = append(l["pairs"], [2]int{i, most - 1 - i})
		l["all need one"] = append(l["all need one"], [2]int{i, most / 2})
		l["one needs all"] = append(l["one needs all"], [2]int{most / 2, i})
		for k := range 16 {
			l["wide"] = append(l["wide"], [2]int{i, min(i+k+1, most-1)})
		}
	}
	for i := range 128 * 128 {
		l["each needs each"] = append(l["each needs each"], [2]int{8 * (i / 128), 8 * (i % 128)})
	}
	return l
}

func TestGreatestGraphs(t *testing.T) {
	for name, edges := range greatGraphs() {
		if len(edges) > api.MaxTokens {
			t.Fatal(name)
		}
		t.Run(name, func(t *testing.T) { modelled(t, most, edges) })
	}
	for i := range int64(5) {
		modelled(t, most, randomGraph(i, most))
	}
}

// P703.

func TestEachNodeIsInOneGroupBehindWhatItNeeds(t *testing.T) {
	for i := range int64(4000) {
		n := int(i) % 60
		edges := randomGraph(i, n)
		l, e := Groups(n, edges)
		if e != api.OK {
			t.Fatal(e)
		}
		place := map[int]int{}
		for k, group := range l {
			if len(group) == 0 || !slices.IsSorted(group) {
				t.Fatalf("%v: %v", edges, group)
			}
			for _, a := range group {
				if _, there := place[a]; there || a < 0 || a >= n {
					t.Fatalf("%v: %d in %v", edges, a, l)
				}
				place[a] = k
			}
		}
		if len(place) != n {
			t.Fatalf("%v: not all in %v", edges, l)
		}
		for _, edge := range edges {
			if place[edge[0]] < place[edge[1]] {
				t.Fatalf("%v: %v in %v", edges, edge, l)
			}
		}
	}
}

// P704.

func TestOneGroupJustIfEachIsReached(t *testing.T) {
	for i := range int64(1000) {
		n := int(i) % 30
		edges := randomGraph(i, n)
		l, _ := Groups(n, edges)
		reach, group := make([][]int, n), make([]int, n)
		for a := range n {
			reach[a], _ = Reach(n, edges, a)
			group[a] = slices.IndexFunc(l, func(g []int) bool { return slices.Contains(g, a) })
		}
		for a := range n {
			for b := range n {
				ring := slices.Contains(reach[a], b) && slices.Contains(reach[b], a)
				if ring != (group[a] == group[b]) {
					t.Fatalf("%v: %d and %d in %v", edges, a, b, l)
				}
			}
		}
	}
}
