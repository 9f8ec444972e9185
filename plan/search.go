package plan

import "slices"

// search looks for all choices of relations by which their variables have one value each. It gives one variable after another one a value, lets all go that this rules out, and goes into each part that is left on its own. It goes on only where something will be found, so that what it keeps is what was given, what is found, and a memory that has a limit.
type search struct {
	relations []*relation
	variables []*variable
	given     int     // so many variables are the rule's; those behind them stand for several
	order     []int32 // of relations: each one behind the one from which it is reached
	trail     []change
	waiting   []int32 // relations that are to be looked at
	turns     []int32 // those whose turn it is
	lost      []int32 // variables that lost values since all was settled
	spare     []test  // room for those of one relation
	patience  int     // how many failures are borne at first till all is tried anew
	most      int     // so many are counted at most: where more are to be borne, all are
	left      int     // how many more are; endless: all
	steady    bool    // whether variables are tried by their ranks
	ranked    bool    // whether they have them
	marks     int     // of how many values a variable may be, so that a name tells them
	memory    memory
	found     [][]int32
}

// find are the choices by which a rule's body holds, one a literal, of being the numbers of the literals' relations.
func (s *search) find(of []int) [][]int32 {
	if !s.start() {
		return nil
	}
	for _, v := range s.variables {
		v.whole = v.domain.many
	}
	all := make([]int32, s.given)
	for v := range all {
		all[v] = int32(v)
	}
	if parts := s.parts(all); s.allCan(parts) {
		s.each(ahead(parts, nil), func() { s.tell(of) })
	}
	return s.found
}

// each tells wherever all parts have come to one value for each variable. There is a way to that.
func (s *search) each(t *todo, tell func()) {
	if t == nil {
		tell()
		return
	}
	for x := s.attempt(t, nil); x != nil; {
		if len(x.values) == 0 {
			x = x.outer
			continue
		}
		parts, left := s.giveNext(x)
		if !left || !s.allCan(parts) {
			continue
		}
		if t := ahead(parts, x.rest); t != nil {
			x = s.attempt(t, x)
		} else {
			tell()
		}
	}
}

// allCan tells whether there are values for all variables of all parts.
func (s *search) allCan(parts []*part) bool {
	return !slices.ContainsFunc(parts, func(p *part) bool { return !s.can(p) })
}

// tell puts down all choices of rows that are left. All rows of one relation have the same values now of what it shares with others.
func (s *search) tell(of []int) {
	at := make([]int32, len(s.relations))
	for more := true; more; more = s.step(at) {
		l := make([]int32, len(of))
		for i, n := range of {
			l[i] = s.relations[n].choice(at[n])
		}
		s.found = append(s.found, l)
	}
}

// step goes on to the next choice of rows, if there is one.
func (s *search) step(at []int32) bool {
	for i, n := range s.relations {
		if at[i]++; at[i] < n.many() {
			return true
		}
		at[i] = 0
	}
	return false
}
