package plan

// endless are all failures that there are, be they more than a number tells.
const endless = -1

// can tells whether there are values for all variables of a part. After too many failures it begins anew in the other way: where values rule out others it helps to know which variables fail, and where they do not it helps to come to the same parts again and again. It ends, since a try that bears all failures does: there are but so many values.
func (s *search) can(p *part) bool {
	for many := s.patience; ; many = s.more(many) {
		for range 2 {
			s.left = many
			if verdict := s.try(p); verdict != unknown {
				return verdict == possible
			}
			s.turn()
		}
	}
}

// more is twice as many failures.
func (s *search) more(many int) int {
	if many > s.most/2 {
		return endless
	}
	return 2 * many
}

// fail counts a failure, if failures are counted.
func (s *search) fail() {
	if s.left > 0 {
		s.left--
	}
}

// turn goes over to the other way.
func (s *search) turn() {
	if !s.ranked {
		s.rank()
		s.ranked = true
	}
	s.steady = !s.steady
}

// try tells what is found of a part: unknown after too many failures.
func (s *search) try(p *part) int {
	mark := len(s.trail)
	verdict := s.known(p)
	if verdict != unknown {
		return verdict
	}
	for x := s.attempt(&todo{part: p}, nil); x != nil; {
		p, verdict = s.onward(x, verdict)
		switch {
		case p != nil:
			x = s.attempt(&todo{part: p}, x)
		case verdict == unknown:
			s.undo(mark)
			return unknown
		default:
			s.memory.put(s.name(s.back(x)), verdict) // named anew: all may have been forgotten meanwhile, and other sets have the numbers
			x = x.outer
		}
	}
	return verdict
}

// onward takes an attempt on by what was found of the part that it went into last (unknown: of none): into the next part, or else to the next value. It tells into which part it goes, or, of none, what is found of its own: unknown after too many failures.
func (s *search) onward(x *attempt, verdict int) (*part, int) {
	for {
		switch {
		case verdict == possible && x.rest == nil:
			return nil, possible
		case verdict == possible:
			p := x.rest.part
			x.rest = x.rest.next
			if verdict = s.known(p); verdict == unknown {
				return p, unknown
			}
			continue
		case verdict == impossible:
			s.fail()
		}
		if len(x.values) == 0 {
			return nil, impossible
		}
		if s.left == 0 {
			return nil, unknown
		}
		verdict = impossible
		if parts, left := s.giveNext(x); left {
			x.rest, verdict = ahead(parts, nil), possible
		}
	}
}

// known is what is known of a part without trying it.
func (s *search) known(p *part) int {
	if s.easy(p) {
		return possible
	}
	return s.memory.found[s.name(p)]
}
