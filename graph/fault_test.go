package graph

import (
	"math"
	"slices"
	"testing"

	"hammock/api"
)

// P702: what may not be.

// faulty: is that the error of all calls, with nothing beside it?
func faulty(t *testing.T, n int, edges [][2]int, want api.Errno) {
	t.Helper()
	if l, e := Groups(n, edges); e != want || want != api.OK && len(l) > 0 {
		t.Errorf("%d, %d edges: the groups %v, %d, not %d", n, len(edges), l, e, want)
	}
	if l, ok := Order(n, edges); want != api.OK && (ok || len(l) > 0) {
		t.Errorf("%d, %d edges: the order %v, %v", n, len(edges), l, ok)
	}
	for _, from := range []int{math.MinInt, -1, 0, n - 1, n, n + 1, math.MaxInt} {
		e := want
		if e == api.OK && (from < 0 || from >= n) {
			e = api.ErrArg
		}
		if l, got := Reach(n, edges, from); got != e || (e != api.OK) != (len(l) == 0) {
			t.Errorf("%d, %d edges: from %d %v, %d, not %d", n, len(edges), from, l, got, e)
		}
	}
}

func TestTooFewOrTooManyNodes(t *testing.T) {
	for _, n := range []int{math.MinInt, math.MinInt + 1, -most, -2, -1, most + 1, most + 2, 1 << 32, 1<<32 + 1, math.MaxInt} {
		faulty(t, n, nil, api.ErrArg)
		faulty(t, n, [][2]int{{0, 0}}, api.ErrArg)
		faulty(t, n, [][2]int{{n - 1, n}}, api.ErrArg)
	}
	for _, n := range []int{0, 1, 2, most - 1, most} {
		faulty(t, n, nil, api.OK)
	}
}

func TestTooManyEdges(t *testing.T) {
	for _, n := range []int{1, 2, most} {
		edges := slices.Repeat([][2]int{{0, n - 1}}, api.MaxTokens+1)
		faulty(t, n, edges, api.ErrSize)
		faulty(t, n, slices.Repeat(edges, 3), api.ErrSize)
		faulty(t, n, edges[1:], api.OK)
	}
}

func TestEdgesWithoutNode(t *testing.T) {
	for _, n := range []int{0, 1, 2, 7, most} {
		for _, a := range []int{math.MinInt, -n, -1, n, n + 1, most, 1 << 32, math.MaxInt} {
			if a >= 0 && a < n {
				continue
			}
			for _, edge := range [][2]int{{a, 0}, {0, a}, {a, a}, {a, n - 1}, {n - 1, a}} {
				faulty(t, n, [][2]int{edge}, api.ErrArg)
				if n > 0 {
					faulty(t, n, [][2]int{{0, 0}, edge}, api.ErrArg)
					faulty(t, n, [][2]int{edge, {0, n - 1}}, api.ErrArg)
				}
			}
		}
	}
	faulty(t, 0, [][2]int{{0, 0}}, api.ErrArg)
	faulty(t, most, [][2]int{{0, most - 1}, {most - 1, 0}}, api.OK)
	edges := slices.Repeat([][2]int{{0, 1}}, api.MaxTokens)
	edges[api.MaxTokens-1][1] = 2
	faulty(t, 2, edges, api.ErrArg)
	faulty(t, 3, edges, api.OK)
}

// Of several errors the one is told that is named first: of the nodes, of how many edges there are, of their ends.
func TestSeveralErrors(t *testing.T) {
	wrong := slices.Repeat([][2]int{{0, 2}}, api.MaxTokens+1)
	faulty(t, -1, wrong, api.ErrArg)
	faulty(t, most+1, wrong, api.ErrArg)
	faulty(t, 0, wrong, api.ErrSize)
	faulty(t, 2, wrong, api.ErrSize)
	faulty(t, 2, wrong[1:], api.ErrArg)
}

func TestOrderOfRings(t *testing.T) {
	for _, edges := range [][][2]int{
		{{0, 0}},
		{{2, 2}},
		{{1, 0}, {2, 1}, {1, 1}},
		{{0, 1}, {1, 0}},
		{{2, 1}, {1, 0}, {0, 2}},
	} {
		if l, ok := Order(3, edges); ok || len(l) > 0 {
			t.Errorf("%v: %v, %v", edges, l, ok)
		}
	}
}
