package model

import (
	"slices"
	"strconv"

	"avowal/api"
	"avowal/match"
)

// walk goes through a rule's body, a fact for each literal; met are the keys of what it came to.
type walk struct {
	rule    api.Rule
	facts   []api.Fact
	spans   map[string]span
	numbers [][]int // of the facts that a literal may take
	met     map[string]struct{}
}

// point is how far a walk came at a literal: what is bound ahead of it, and how many of its facts were tried.
type point struct {
	env   []api.Bind
	tried int
}

// through tells what is bound at each end of the body, till yield has enough. The points stand in a list, not in calls within calls, so that no body is too long.
func (w walk) through(env []api.Bind, yield func([]api.Bind) bool) {
	way := []point{{env: env}}
	for len(way) > 0 {
		k := len(way) - 1
		here := way[k]
		switch {
		case k == len(w.numbers):
			if !yield(here.env) {
				return
			}
			way = way[:k]
		case here.tried == len(w.numbers[k]):
			way = way[:k]
		default:
			way[k].tried++
			f := w.facts[w.numbers[k][here.tried]]
			if next, ok := w.step(k, f, here.env); ok {
				way = append(way, point{env: next})
			}
		}
	}
}

// step is what is bound behind literal k and asked later, if the literal takes the fact, and the walk did not come to the same before: from there on nothing else would be told.
func (w walk) step(k int, f api.Fact, env []api.Bind) ([]api.Bind, bool) {
	next, ok := match.Literal(w.rule.Home, w.rule.Body[k], f, env)
	if !ok {
		return nil, false
	}
	done := func(b api.Bind) bool { return w.spans[b.Var].last <= k }
	next = slices.DeleteFunc(next, done)
	if !slices.ContainsFunc(env, done) { // all of env is still there, by which this way differs from the others
		return next, true
	}
	at := key(k, next)
	if _, was := w.met[at]; was {
		return nil, false
	}
	w.met[at] = struct{}{}
	return next, true
}

// key is a text of its own for each literal and each list of values: behind one literal the variables are always the same, in the same order.
func key(k int, env []api.Bind) string {
	b := strconv.AppendInt(nil, int64(k), 10)
	for _, x := range env {
		b = strconv.AppendBool(append(b, ' '), x.Val.Num)
		b = strconv.AppendInt(append(b, ' '), int64(x.Val.N), 10)
		b = strconv.AppendInt(append(b, ' '), int64(len(x.Val.S)), 10)
		b = append(append(b, ' '), x.Val.S...)
	}
	return string(b)
}
