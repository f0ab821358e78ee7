package graph

import "slices"

// search: finds the groups in one walk along all edges.
type search struct {
	needs  [][]int
	met    []int // as the how-manieth a node was met, from 1 on; 0: not yet
	first  []int // the least such number of the nodes that a walk from this one is known to lead back to
	open   []int // the nodes that are met, but in no group yet
	count  int   // how many are met
	road   []step
	groups [][]int
	group  []int // of each node the number of its group; -1: none yet
}

// step: where the walk stands at a node. The steps are a stack in place of calls, so that a long road needs no deep ones.
type step struct {
	node int
	next int // which of the nodes that it needs comes next
}

func newSearch(needs [][]int) *search {
	n := len(needs)
	return &search{
		needs: needs,
		met:   make([]int, n),
		first: make([]int, n),
		group: slices.Repeat([]int{-1}, n),
	}
}

func (s *search) walk(from int) {
	s.enter(from)
	for len(s.road) > 0 {
		top := &s.road[len(s.road)-1]
		if a := top.node; top.next < len(s.needs[a]) {
			b := s.needs[a][top.next]
			top.next++
			s.along(a, b)
		} else {
			s.leave(a)
		}
	}
}

func (s *search) enter(a int) {
	s.count++
	s.met[a], s.first[a] = s.count, s.count
	s.open = append(s.open, a)
	s.road = append(s.road, step{node: a})
}

func (s *search) along(a, b int) {
	if s.met[b] == 0 {
		s.enter(b)
	} else if s.group[b] < 0 {
		s.first[a] = min(s.first[a], s.met[b])
	}
}

func (s *search) leave(a int) {
	s.road = s.road[:len(s.road)-1]
	if s.first[a] == s.met[a] {
		s.gather(a)
		return
	}
	// The walk began at a node that leads back to none ahead of it: so there is one from which it came here.
	from := s.road[len(s.road)-1].node
	s.first[from] = min(s.first[from], s.first[a])
}

// gather: a leads back to none that was met ahead of it, so that what is still open since then is its group.
func (s *search) gather(a int) {
	begin := len(s.open) - 1
	for s.open[begin] != a {
		begin--
	}
	group := slices.Clone(s.open[begin:])
	s.open = s.open[:begin]
	slices.Sort(group)
	for _, b := range group {
		s.group[b] = len(s.groups)
	}
	s.groups = append(s.groups, group)
}
