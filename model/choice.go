package model

import (
	"slices"

	"avowal/api"
	"avowal/fact"
	"avowal/match"
)

// span is the first and the last literal in which a variable stands. The Home and the head count as one behind the last: there they are asked.
type span struct{ first, last int }

// spansOf tells the span of each variable of a rule.
func spansOf(r api.Rule) map[string]span {
	spans := map[string]span{}
	mark := func(k int, l ...api.Term) {
		for _, t := range l {
			s, ok := spans[t.Var]
			if !ok {
				s.first = k
			}
			s.last = k
			spans[t.Var] = s
		}
	}
	for k, x := range r.Body {
		mark(k, x.By, x.At)
		mark(k, x.Args...)
	}
	mark(len(r.Body), r.Home, r.To)
	mark(len(r.Body), r.Args...)
	return spans
}

// choices are, literal by literal, the numbers of the facts of m that are worth a try; nothing and false, if one has none: then no choice for the others leads anywhere.
func choices(r api.Rule, env []api.Bind, m []api.Fact, spans map[string]span) ([][]int, bool) {
	var l [][]int
	for k, x := range r.Body {
		own := func(b api.Bind) bool { return spans[b.Var] == span{k, k} }
		c := choice(r.Home, x, env, m, own)
		if len(c) == 0 {
			return nil, false
		}
		l = append(l, c)
	}
	return l, true
}

// taken is the number of a fact that a literal takes, and what is bound by it that others see.
type taken struct {
	number int
	seen   []api.Bind
}

// choice are the numbers of the facts that a literal takes with nothing bound but the Home: with more bound it takes no others. Of facts that differ only in what its own variables are, one is as good as all.
func choice(home api.Term, x api.Literal, env []api.Bind, m []api.Fact, own func(api.Bind) bool) []int {
	var l []taken
	for i, f := range m {
		if bound, ok := match.Literal(home, x, f, env); ok {
			l = append(l, taken{i, slices.DeleteFunc(bound, own)})
		}
	}
	slices.SortFunc(l, func(a, b taken) int { return compare(a.seen, b.seen) })
	l = slices.CompactFunc(l, func(a, b taken) bool { return compare(a.seen, b.seen) == 0 })
	var numbers []int
	for _, t := range l {
		numbers = append(numbers, t.number)
	}
	return numbers
}

// compare orders bindings of the same variables by their values.
func compare(a, b []api.Bind) int {
	return slices.CompareFunc(a, b, func(x, y api.Bind) int { return fact.Compare(x.Val, y.Val) })
}
