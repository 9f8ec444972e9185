package plan

import (
	"slices"

	"avowal/api"
	"avowal/fact"
	"avowal/match"
)

// choice is a fact that a literal takes, and what is bound by it. Of all choices of a literal these are the same variables, in the same order.
type choice struct {
	fact  api.Fact
	binds []api.Bind
}

// step is a literal that is looked for: its number, and its choices, in order, each once.
type step struct {
	literal int
	choices []choice
}

// stepsOf are the steps of a search, in their order; nothing and false, if me can't be the Home or a literal has no choice.
func stepsOf(r api.Rule, me string, first int, f api.Fact, l []api.Fact) ([]step, bool) {
	env, ok := match.Unify(r.Home, api.Const{S: me}, nil)
	if !ok {
		return nil, false
	}
	var steps []step
	for _, i := range Order(r, first) {
		from := l
		if i == first {
			from = []api.Fact{f}
		}
		c := choices(r.Home, r.Body[i], env, from)
		if len(c) == 0 {
			return nil, false
		}
		if len(c) == 1 { // as f is: it is in all bodies, so that what it binds leaves the later literals fewer choices
			env = append(env, c[0].binds...)
		}
		steps = append(steps, step{literal: i, choices: c})
	}
	return steps, true
}

// choices are those facts that a literal takes with no more bound than env.
func choices(home api.Term, x api.Literal, env []api.Bind, l []api.Fact) []choice {
	var all []choice
	for _, f := range l {
		if bound, ok := match.Literal(home, x, f, env); ok {
			all = append(all, choice{fact: f, binds: bound[len(env):]})
		}
	}
	order := func(a, b choice) int { return fact.Order(a.fact, b.fact) }
	slices.SortFunc(all, order)
	return slices.CompactFunc(all, func(a, b choice) bool { return order(a, b) == 0 })
}

// variables are those that a step's choices bind.
func (s step) variables() []string {
	var l []string
	for _, b := range s.choices[0].binds {
		l = append(l, b.Var)
	}
	return l
}
