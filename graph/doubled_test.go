package graph

import (
	"math/rand"
	"slices"
	"testing"

	"hammock/api"
)

// P705.

// sameTold: is the same told of both lists of edges?
func sameTold(t *testing.T, n int, edges, others [][2]int) {
	t.Helper()
	l, e := Groups(n, edges)
	if m, other := Groups(n, others); e != api.OK || other != api.OK || !sameGroups(l, m) {
		t.Fatalf("%v: %v, %d\n%v: %v, %d", edges, l, e, others, m, other)
	}
	order, ok := Order(n, edges)
	if o, other := Order(n, others); ok != other || !slices.Equal(order, o) {
		t.Fatalf("%v: %v, %v\n%v: %v, %v", edges, order, ok, others, o, other)
	}
	for from := range n {
		nodes, e := Reach(n, edges, from)
		if l, other := Reach(n, others, from); e != api.OK || other != api.OK || !slices.Equal(nodes, l) {
			t.Fatalf("%v: %v, %d\n%v: %v, %d", edges, nodes, e, others, l, other)
		}
	}
}

// jumbled: the same edges, some of them more than once, in another order.
func jumbled(r *rand.Rand, edges [][2]int) [][2]int {
	l := slices.Clone(edges)
	for _, edge := range edges {
		for range r.Intn(3) {
			l = append(l, edge)
		}
	}
	r.Shuffle(len(l), func(i, j int) { l[i], l[j] = l[j], l[i] })
	return l
}

func TestDoubledAndMovedEdgesChangeNothing(t *testing.T) {
	for i := range int64(3000) {
		n := int(i) % 25
		edges := randomGraph(i, n)
		sameTold(t, n, edges, jumbled(rand.New(rand.NewSource(i)), edges))
	}
}

func TestAsManyDoubledEdgesAsMayBe(t *testing.T) {
	edges := [][2]int{{0, 1}, {1, 2}, {2, 1}, {4, 3}}
	sameTold(t, 6, edges, slices.Repeat(edges, api.MaxTokens/4))
	sameTold(t, 2, [][2]int{{1, 0}}, slices.Repeat([][2]int{{1, 0}}, api.MaxTokens))
	sameTold(t, 1, [][2]int{{0, 0}}, slices.Repeat([][2]int{{0, 0}}, api.MaxTokens))
}
