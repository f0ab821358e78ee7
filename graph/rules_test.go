package graph

import (
	"slices"
	"sync"
	"testing"

	"hammock/api"
)

// P701.

func TestNothingHandedInIsChanged(t *testing.T) {
	for i := range int64(1000) {
		n := 1 + int(i)%20
		edges := slices.Grow(randomGraph(i, n), 5)
		was := slices.Clone(edges[:cap(edges)])
		l, e := Groups(n, edges)
		order, ok := Order(n, edges)
		nodes, other := Reach(n, edges, n-1)
		// What else is asked changes nothing.
		Groups(n+1, append(edges[:0:0], [2]int{n, 0}, [2]int{0, n}))
		Order(-1, edges)
		if m, again := Groups(n, edges); again != e || !sameGroups(l, m) {
			t.Fatalf("%v: %v, then %v", edges, l, m)
		}
		if o, again := Order(n, edges); again != ok || !slices.Equal(order, o) {
			t.Fatalf("%v: %v, then %v", edges, order, o)
		}
		if r, again := Reach(n, edges, n-1); again != other || !slices.Equal(nodes, r) {
			t.Fatalf("%v: %v, then %v", edges, nodes, r)
		}
		if !slices.Equal(edges[:cap(edges)], was) {
			t.Fatalf("%v: changed from %v", edges[:cap(edges)], was)
		}
	}
}

// lists: all lists of answers of all calls, each with the room behind it.
func lists(n int, edges [][2]int) [][]int {
	groups, _ := Groups(n, edges)
	again, _ := Groups(n, edges)
	l := append(slices.Clone(groups), again...)
	for range 2 {
		order, _ := Order(n, edges)
		first, _ := Reach(n, edges, 0)
		last, _ := Reach(n, edges, n-1)
		l = append(l, order, first, last)
	}
	for i := range l {
		l[i] = l[i][:cap(l[i])]
	}
	return l
}

func TestAnswersAreNewMemory(t *testing.T) {
	for i := range int64(500) {
		n := 1 + int(i)%20
		edges := randomGraph(i, n)
		was := slices.Clone(edges)
		l := lists(n, edges)
		for k := range l {
			for j := range l[k] {
				l[k][j] = -1 - k
			}
		}
		for k := range l {
			for _, a := range l[k] {
				if a != -1-k {
					t.Fatalf("%v: the lists %d and %d share memory", edges, k, -1-a)
				}
			}
		}
		if !slices.Equal(edges, was) {
			t.Fatalf("%v: shared with an answer", was)
		}
		modelled(t, n, edges)
	}
}

func TestListsOfGroupsAreNewMemory(t *testing.T) {
	edges := [][2]int{{0, 1}, {1, 0}, {2, 0}}
	l, _ := Groups(4, edges)
	m, _ := Groups(4, edges)
	clear(l[:cap(l)])
	if !sameGroups(m, [][]int{{0, 1}, {2}, {3}}) {
		t.Error(m)
	}
}

func TestNilAndEmptyMeanTheSame(t *testing.T) {
	for _, n := range []int{0, 1, 5} {
		sameTold(t, n, nil, [][2]int{})
	}
	if l, e := Groups(0, [][2]int{}); e != api.OK || len(l) != 0 {
		t.Error(l, e)
	}
	if l, ok := Order(0, [][2]int{}); !ok || len(l) != 0 {
		t.Error(l, ok)
	}
	if l, e := Reach(0, [][2]int{}, 0); e != api.ErrArg || len(l) != 0 {
		t.Error(l, e)
	}
}

func TestCallsAtOneTime(t *testing.T) {
	edges := randomGraph(1, 200)
	groups, _ := Groups(200, edges)
	var all sync.WaitGroup
	for range 8 {
		all.Go(func() {
			for range 20 {
				if l, e := Groups(200, edges); e != api.OK || !sameGroups(l, groups) {
					t.Error(l, e)
				}
			}
		})
	}
	all.Wait()
}
