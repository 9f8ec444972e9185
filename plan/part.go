package plan

import (
	"cmp"
	"slices"
)

// part are open variables that hang together, with all relations that have one of them. What one part may be hangs on no other part.
type part struct {
	variables, relations []int32
}

// parts are those of some variables, the small ones first, since they are soon tried.
func (s *search) parts(variables []int32) []*part {
	var l []*part
	for _, v := range variables {
		if p := (&part{}); s.enter(p, v) {
			s.spread(p)
			l = append(l, p)
		}
	}
	for _, p := range l {
		s.unsee(p)
	}
	slices.SortStableFunc(l, func(a, b *part) int { return len(a.variables) - len(b.variables) })
	return l
}

// around is the part of an open variable.
func (s *search) around(v int32) *part {
	p := &part{}
	s.enter(p, v)
	s.spread(p)
	s.unsee(p)
	return p
}

// enter puts a variable of the rule into a part, if it is open and in none yet.
func (s *search) enter(p *part, v int32) bool {
	x := s.variables[v]
	if !s.asked(v) || x.seen {
		return false
	}
	x.seen = true
	p.variables = append(p.variables, v)
	return true
}

// asked tells whether a variable is open, and one of the rule.
func (s *search) asked(v int32) bool {
	return int(v) < s.given && s.variables[v].domain.many > 1
}

// spread puts all into a part that hangs together with it.
func (s *search) spread(p *part) {
	for k := 0; k < len(p.variables); k++ { // it grows meanwhile
		for _, i := range s.variables[p.variables[k]].relations {
			n := s.relations[i]
			if n.seen {
				continue
			}
			n.seen = true
			p.relations = append(p.relations, i)
			for _, v := range n.variables {
				s.enter(p, v)
			}
		}
	}
}

// unsee lets all of a part be seen anew.
func (s *search) unsee(p *part) {
	for _, v := range p.variables {
		s.variables[v].seen = false
	}
	for _, i := range p.relations {
		s.relations[i].seen = false
	}
}

// easy tells whether a part has no circle, so that whatever its variables may be on their own they may be together. It has none, if each variable joins its relations by as many links as lead from one to another one of them, be it in the order of join, or because no two relations have two open variables in common.
func (s *search) easy(p *part) bool {
	meetings, links := 0, 0
	for _, v := range p.variables {
		meetings += len(s.variables[v].relations) - 1
	}
	for _, i := range p.relations {
		for _, v := range s.relations[i].shared {
			if s.asked(v) {
				links++
			}
		}
	}
	return meetings == links || meetings == len(p.relations)-1
}

// chosen is the variable of a part that is to be tried: the first one by rank, where the search goes steadily; else one with few values, whose relations often came to nothing.
func (s *search) chosen(p *part) int32 {
	return slices.MinFunc(p.variables, func(v, w int32) int {
		x, y := s.variables[v], s.variables[w]
		if s.steady {
			return cmp.Compare(x.rank, y.rank)
		}
		return cmp.Or(cmp.Compare(times(x.domain.many, y.weight), times(y.domain.many, x.weight)), cmp.Compare(v, w))
	})
}

// times is a product of two numbers of 32 bits, which 64 bits always have room for.
func times(a, b int32) int64 { return int64(a) * int64(b) }

// values are those that a variable may have, in order.
func (s *search) values(v int32) []int32 {
	l := slices.Clone(s.variables[v].domain.all())
	slices.Sort(l)
	return l
}
