package graph

import "container/heap"

// ready: groups that need none that is not told yet; the one with the least node comes first.
type ready [][]int

func (r ready) Len() int           { return len(r) }
func (r ready) Less(i, j int) bool { return r[i][0] < r[j][0] }
func (r ready) Swap(i, j int)      { r[i], r[j] = r[j], r[i] }
func (r *ready) Push(group any)    { *r = append(*r, group.([]int)) }

func (r *ready) Pop() any {
	last := len(*r) - 1
	group := (*r)[last]
	*r = (*r)[:last]
	return group
}

// groups: each rising, and in order.
func groups(needs [][]int) [][]int {
	s := newSearch(needs)
	for a := range needs {
		if s.met[a] == 0 {
			s.walk(a)
		}
	}
	waits, users := s.between()
	next := &ready{}
	for i, group := range s.groups {
		if waits[i] == 0 {
			heap.Push(next, group)
		}
	}
	l := make([][]int, 0, len(s.groups))
	for next.Len() > 0 {
		group := heap.Pop(next).([]int)
		l = append(l, group)
		for _, i := range users[s.group[group[0]]] {
			waits[i]--
			if waits[i] == 0 {
				heap.Push(next, s.groups[i])
			}
		}
	}
	return l
}

// between: of each group how many edges lead out of it, and the groups from which edges lead to it, one for each edge.
func (s *search) between() (waits []int, users [][]int) {
	waits, users = make([]int, len(s.groups)), make([][]int, len(s.groups))
	for a, l := range s.needs {
		from := s.group[a]
		for _, b := range l {
			if to := s.group[b]; to != from {
				waits[from]++
				users[to] = append(users[to], from)
			}
		}
	}
	return waits, users
}
