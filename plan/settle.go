package plan

import (
	"math"
	"slices"
)

// change is a bag from which numbers went, and how many it had ahead of that.
type change struct {
	bag  *bag
	many int32
}

// keep lets all go of a bag but the first ones.
func (s *search) keep(b *bag, many int32) {
	if many < b.many {
		s.trail = append(s.trail, change{bag: b, many: b.many})
		b.many = many
	}
}

// undo takes back what went since the trail was so long.
func (s *search) undo(mark int) {
	for _, c := range slices.Backward(s.trail[mark:]) {
		c.bag.many = c.many
	}
	s.trail = s.trail[:mark]
}

// start lets all go that a first look rules out: once from the last relation to the first one and back, which is all that is to be done where the rule has no circles.
func (s *search) start() bool {
	for _, i := range s.order {
		s.wait(i)
	}
	for _, i := range slices.Backward(s.order) {
		if !s.look(i, true) {
			return false
		}
	}
	for _, i := range s.order {
		if !s.look(i, true) {
			return false
		}
	}
	return s.settle()
}

// give gives a variable one of its values alone; false, if nothing is left then.
func (s *search) give(v, value int32) bool {
	x := s.variables[v]
	s.keep(&x.domain, x.domain.gather(value, 0))
	s.lose(v)
	for _, i := range x.relations {
		s.wait(i)
	}
	return s.settle()
}

// lose puts a variable down as one that lost values, till all is settled.
func (s *search) lose(v int32) {
	if x := s.variables[v]; !x.lost {
		x.lost = true
		s.lost = append(s.lost, v)
	}
}

// wait lets a relation wait till it is looked at.
func (s *search) wait(i int32) {
	if n := s.relations[i]; !n.waits {
		n.waits = true
		s.waiting = append(s.waiting, i)
	}
}

// settle looks at the relations that wait, till nothing goes any more; false, if nothing is left of one.
func (s *search) settle() bool {
	left := true
	for len(s.waiting) > 0 {
		s.turns, s.waiting = s.waiting, s.turns[:0]
		for _, i := range s.turns {
			s.relations[i].waits = false
			left = left && s.look(i, false)
		}
	}
	for _, v := range s.lost {
		s.variables[v].lost = false
	}
	s.lost = s.lost[:0]
	return left
}

// look lets a relation's rows go that its variables no longer allow, and the values of its variables that no row has any more; false, if no row is left. Where no row went, only the first look tells something of values.
func (s *search) look(i int32, first bool) bool {
	n := s.relations[i]
	fit := s.fitting(n)
	if fit == 0 {
		for _, v := range n.variables {
			s.blame(v)
		}
		return false
	}
	if fit < n.rows.many || first {
		s.keep(&n.rows, fit)
		for j := range n.variables {
			s.narrow(i, j)
		}
	}
	return true
}

// maxWeight is the greatest weight.
const maxWeight = math.MaxInt32

// blame makes a variable's weight greater by one. Where there is no greater one, all weights are halved ahead of that: it is their proportion that counts.
func (s *search) blame(v int32) {
	if s.variables[v].weight == maxWeight {
		for _, x := range s.variables {
			x.weight -= x.weight / 2
		}
	}
	s.variables[v].weight++
}

// test asks of a row whether a variable's value by it is still in its domain.
type test struct {
	values []int32
	index  index
	domain *bag
}

// tests are those by which a relation's rows may fail: of variables that lost values since all was settled.
func (s *search) tests(n *relation) []test {
	l := s.spare[:0]
	for j, v := range n.variables {
		if x := s.variables[v]; x.lost {
			l = append(l, test{values: n.grid.values[j], index: n.grid.index[j], domain: &x.domain})
		}
	}
	s.spare = l
	return l
}

// fits tells whether a row passes all tests.
func fits(l []test, row int32) bool {
	for _, x := range l {
		if !x.domain.has(x.values[row]) {
			return false
		}
	}
	return true
}

// fitting gathers the rows that pass all tests, and tells how many they are. Those by the values of one variable are looked up, where these are fewer than all.
func (s *search) fitting(n *relation) int32 {
	tests := s.tests(n)
	fit := int32(0)
	by, fewer := fewest(tests, int(n.rows.many))
	if !fewer {
		for p := range n.rows.many { // what is gathered changes places with what was passed over
			if row := n.rows.list[p]; fits(tests, row) {
				fit = n.rows.gather(row, fit)
			}
		}
		return fit
	}
	for _, value := range by.domain.all() {
		for _, row := range by.index.with(value) {
			if n.rows.has(row) && fits(tests, row) {
				fit = n.rows.gather(row, fit)
			}
		}
	}
	return fit
}

// fewest is the test by whose values the fewest rows are looked up, if these are fewer than many.
func fewest(l []test, many int) (best test, fewer bool) {
	for _, x := range l {
		rows := 0
		for _, value := range x.domain.all() {
			if rows += 1 + len(x.index.with(value)); rows >= many {
				break
			}
		}
		if rows < many {
			best, fewer, many = x, true, rows
		}
	}
	return best, fewer
}

// narrow lets the values of a relation's variable j go that no row has any more, of which the variable's other relations are to hear.
func (s *search) narrow(i int32, j int) {
	n := s.relations[i]
	x := s.variables[n.variables[j]]
	had := int32(0)
	for _, row := range n.rows.all() {
		if had == x.domain.many {
			return
		}
		had = x.domain.gather(n.grid.values[j][row], had)
	}
	if had == x.domain.many {
		return
	}
	s.keep(&x.domain, had)
	s.lose(n.variables[j])
	for _, k := range x.relations {
		if k != i {
			s.wait(k)
		}
	}
}
