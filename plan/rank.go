package plan

import "slices"

// ranking finds the ranks by which variables are tried where the search goes steadily. Those that hang together with a variable hang together all the same when it is taken away: what is tried last hangs on just these, and is met again wherever they have the values that they had. So it is good if they are few, each time that a variable is taken away.
type ranking struct {
	groups [][]int32 // variables that hang together; nil: another group has them now
	of     [][]int   // by variable: the groups that have it
	others []int     // by variable: with how many others it hangs together; -1: it was taken away
	seen   []int     // by variable: in which round
	round  int
	taken  []int32
	most   int // with how many others one hung together that was taken away
}

// wide is with how many others one hangs together, if it is no use to count how many each of these has: what hangs on so many is not met again.
const wide = 64

// rank ranks the rule's variables in one of two ways, whichever is better: as literals are looked for; or such that the last one hangs together with the fewest others, and without it again the last but one, and so on.
func (s *search) rank() {
	best := s.newRanking()
	for v := s.given - 1; v >= 0; v-- {
		best.take(int32(v))
	}
	other := s.newRanking()
	for range s.given {
		other.take(other.fewest())
	}
	if other.most < best.most {
		best = other
	}
	for k, v := range best.taken {
		s.variables[v].rank = -k
	}
}

// newRanking is one of which nothing was taken away. Variables that had one value when the search began do not count.
func (s *search) newRanking() *ranking {
	r := &ranking{of: make([][]int, s.given), others: make([]int, s.given), seen: make([]int, s.given)}
	fixed := func(v int32) bool { return int(v) >= s.given || s.variables[v].whole < 2 }
	for _, n := range s.relations {
		r.add(slices.DeleteFunc(slices.Clone(n.variables), fixed))
	}
	for v := range r.others {
		r.others[v] = max(len(r.together(int32(v)))-1, 0)
	}
	return r
}

// add makes variables a group.
func (r *ranking) add(group []int32) {
	for _, v := range group {
		r.of[v] = append(r.of[v], len(r.groups))
	}
	r.groups = append(r.groups, group)
}

// together is a variable with all that hang together with it.
func (r *ranking) together(v int32) []int32 {
	r.round++
	var l []int32
	for _, g := range r.of[v] {
		for _, w := range r.groups[g] {
			if r.seen[w] < r.round {
				r.seen[w] = r.round
				l = append(l, w)
			}
		}
	}
	return l
}

// fewest is the first of the variables that were not taken away and hang together with the fewest others.
func (r *ranking) fewest() int32 {
	best := -1
	for v, many := range r.others {
		if many >= 0 && (best < 0 || many < r.others[best]) {
			best = v
		}
	}
	return int32(best)
}

// take takes a variable away: those that hang together with it are one group from now on.
func (r *ranking) take(v int32) {
	group := slices.DeleteFunc(r.together(v), func(w int32) bool { return w == v })
	for _, g := range r.of[v] {
		r.groups[g] = nil
	}
	r.most = max(r.most, len(group))
	r.taken = append(r.taken, v)
	r.others[v] = -1
	for _, w := range group {
		r.of[w] = slices.DeleteFunc(r.of[w], func(g int) bool { return r.groups[g] == nil })
	}
	r.add(group)
	if len(group) > wide {
		return
	}
	for _, w := range group {
		r.others[w] = len(r.together(w)) - 1
	}
}
