package plan

import "slices"

// joining puts relations in an order: of those that are left one is next that has the most variables of those ahead, and it is reached from one of these. Where the rule has no circles, what any two relations share is shared all along the way between them.
type joining struct {
	search  *search
	order   []int32
	from    []int32   // by variable: the place of the first relation that has it; -1: none ahead has
	met     []int     // by relation: how many of its variables those ahead have; -1: it is ahead itself
	shelves [][]int32 // relations by that number, also where they stood once
}

// join is the order of all relations that have variables.
func (s *search) join() []int32 {
	j := &joining{search: s, from: make([]int32, len(s.variables)), met: make([]int, len(s.relations)), shelves: make([][]int32, 1)}
	for v := range j.from {
		j.from[v] = -1
	}
	for i, n := range slices.Backward(s.relations) {
		if len(n.variables) > 0 {
			j.shelves[0] = append(j.shelves[0], int32(i))
		}
	}
	for top := 0; top >= 0; {
		last := len(j.shelves[top]) - 1
		if last < 0 {
			top--
			continue
		}
		i := j.shelves[top][last]
		j.shelves[top] = j.shelves[top][:last]
		if j.met[i] == top {
			top = max(top, j.take(i))
		}
	}
	return j.order
}

// take puts a relation behind the others, and tells the highest shelf on which one was put by that.
func (j *joining) take(i int32) int {
	n := j.search.relations[i]
	n.reach(j.search.relations, j.order, j.from)
	j.met[i] = -1
	top := 0
	for _, v := range n.variables {
		if j.from[v] >= 0 {
			continue
		}
		j.from[v] = int32(len(j.order))
		for _, k := range j.search.variables[v].relations {
			if j.met[k] >= 0 {
				j.met[k]++
				top = max(top, j.met[k])
				j.put(k)
			}
		}
	}
	j.order = append(j.order, i)
	return top
}

// put puts a relation on its shelf.
func (j *joining) put(i int32) {
	for len(j.shelves) <= j.met[i] {
		j.shelves = append(j.shelves, nil)
	}
	j.shelves[j.met[i]] = append(j.shelves[j.met[i]], i)
}

// reach finds from which one of those ahead a relation is reached: the last one of those that were the first to have one of its variables.
func (n *relation) reach(all []*relation, order, from []int32) {
	last := int32(-1)
	for _, v := range n.variables {
		last = max(last, from[v])
	}
	if last < 0 {
		return
	}
	n.from = order[last]
	for _, v := range n.variables {
		if slices.Contains(all[n.from].variables, v) {
			n.shared = append(n.shared, v)
		}
	}
	slices.Sort(n.shared)
}
