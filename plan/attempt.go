package plan

import "slices"

// todo are parts that are to be gone through, one behind the other.
type todo struct {
	part *part
	next *todo
}

// ahead puts parts ahead of others.
func ahead(parts []*part, others *todo) *todo {
	for _, p := range slices.Backward(parts) {
		others = &todo{part: p, next: others}
	}
	return others
}

// attempt gives a variable of a part one value after another one. Attempts within attempts hang on each other, and are no calls within calls: there may be one for each variable, for which there would be no room.
type attempt struct {
	outer  *attempt // the one within which it is
	part   *part    // nil, while there is one within it: else parts within parts would take room by the square of the rule
	v      int32
	values []int32 // that it was not given yet
	mark   int     // how long the trail was ahead of that
	rest   *todo   // parts that are to be gone through behind the one that is gone into
}

// attempt is one of the first part that is to be gone through, within another one.
func (s *search) attempt(t *todo, outer *attempt) *attempt {
	if outer != nil {
		outer.part = nil
	}
	v := s.chosen(t.part)
	return &attempt{outer: outer, part: t.part, v: v, values: s.values(v), mark: len(s.trail), rest: t.next}
}

// back takes back what was done in an attempt, and tells its part: by that the variable hangs together with the same ones again.
func (s *search) back(x *attempt) *part {
	s.undo(x.mark)
	if x.part == nil {
		x.part = s.around(x.v)
	}
	return x.part
}

// giveNext gives an attempt's variable its next value, and tells the parts that this leaves; false, if nothing is left.
func (s *search) giveNext(x *attempt) ([]*part, bool) {
	p := s.back(x)
	value := x.values[0]
	x.values = x.values[1:]
	if !s.give(x.v, value) {
		return nil, false
	}
	return s.parts(p.variables), true
}
