package plan

import "slices"

// search looks for all choices of relations by which their variables have one value each. It gives one variable after another one a value, lets all go that this rules out, and goes into each part that is left on its own. It goes on only where something will be found, so that what it keeps is what was given, what is found, and a memory that has a limit.
type search struct {
	relations []*relation
	variables []*variable
	given     int     // so many variables are the rule's; those behind them stand for several
	order     []int32 // of relations: each one behind the one from which it is reached
	trail     []change
	waiting   []int32 // relations that are to be looked at
	turns     []int32 // those whose turn it is
	now       int     // how often values were given
	spare     []test  // room for those of one relation
	round     int
	patience  int  // how many failures are borne at first till all is tried anew
	left      int  // how many more are
	steady    bool // whether variables are tried by their ranks
	ranked    bool // whether they have them
	marks     int  // of how many values a variable may be, so that a name tells them
	memory    memory
	found     [][]int32
}

// find are the choices by which a rule's body holds, one a literal, of being the numbers of the literals' relations.
func (s *search) find(of []int) [][]int32 {
	if !s.start() {
		return nil
	}
	for _, v := range s.variables {
		v.whole = v.domain.many
	}
	all := make([]int32, s.given)
	for v := range all {
		all[v] = int32(v)
	}
	if parts := s.parts(all); s.allCan(parts) {
		s.each(ahead(parts, nil), func() { s.tell(of) })
	}
	return s.found
}

// parts that are to be gone through, one behind the other.
type todo struct {
	part *part
	next *todo
}

// ahead puts parts ahead of others.
func ahead(parts []*part, others *todo) *todo {
	for _, p := range slices.Backward(parts) {
		others = &todo{part: p, next: others}
	}
	return others
}

// each tells wherever all parts have come to one value for each variable. There is a way to that.
func (s *search) each(t *todo, tell func()) {
	if t == nil {
		tell()
		return
	}
	v := s.chosen(t.part)
	for _, value := range s.values(v) {
		mark := len(s.trail)
		if s.give(v, value) {
			if parts := s.parts(t.part.variables); s.allCan(parts) {
				s.each(ahead(parts, t.next), tell)
			}
		}
		s.undo(mark)
	}
}

// allCan tells whether there are values for all variables of all parts.
func (s *search) allCan(parts []*part) bool {
	return !slices.ContainsFunc(parts, func(p *part) bool { return !s.can(p) })
}

// can tells whether there are values for all variables of a part. After too many failures it begins anew in the other way: where values rule out others it helps to know which variables fail, and where they do not it helps to come to the same parts again and again.
func (s *search) can(p *part) bool {
	for many := s.patience; ; many *= 2 {
		for range 2 {
			s.left = many
			if verdict := s.try(p); verdict != unknown {
				return verdict == possible
			}
			s.turn()
		}
	}
}

// turn goes over to the other way.
func (s *search) turn() {
	if !s.ranked {
		s.rank()
		s.ranked = true
	}
	s.steady = !s.steady
}

// try tells what is found of a part: unknown after too many failures.
func (s *search) try(p *part) int {
	if s.easy(p) {
		return possible
	}
	name := s.name(p)
	if verdict := s.memory.found[name]; verdict != unknown {
		return verdict
	}
	v := s.chosen(p)
	for _, value := range s.values(v) {
		if s.left < 0 {
			return unknown
		}
		if verdict := s.tryValue(p, v, value); verdict != impossible {
			if verdict == possible {
				s.memory.put(name, possible)
			}
			return verdict
		}
		s.left--
	}
	s.memory.put(name, impossible)
	return impossible
}

// tryValue tells what is found of a part, if one of its variables has a value.
func (s *search) tryValue(p *part, v, value int32) int {
	mark := len(s.trail)
	defer s.undo(mark)
	if !s.give(v, value) {
		return impossible
	}
	for _, q := range s.parts(p.variables) {
		if verdict := s.try(q); verdict != possible {
			return verdict
		}
	}
	return possible
}

// tell puts down all choices of rows that are left. All rows of one relation have the same values now of what it shares with others.
func (s *search) tell(of []int) {
	at := make([]int32, len(s.relations))
	for more := true; more; more = s.step(at) {
		l := make([]int32, len(of))
		for i, n := range of {
			l[i] = s.relations[n].choice(at[n])
		}
		s.found = append(s.found, l)
	}
}

// step goes on to the next choice of rows, if there is one.
func (s *search) step(at []int32) bool {
	for i, n := range s.relations {
		if at[i]++; at[i] < n.many() {
			return true
		}
		at[i] = 0
	}
	return false
}
