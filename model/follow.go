package model

import (
	"iter"
	"slices"

	"avowal/api"
	"avowal/match"
)

// atOnce are the facts that follow at once from m. By one rule and one home a fact comes once; several may tell the same.
func atOnce(w World, l []api.Rule, m []api.Fact) iter.Seq[api.Fact] {
	return func(yield func(api.Fact) bool) {
		for _, r := range l {
			for _, home := range w.Homes {
				for env := range bindings(r, home, m) {
					f, ok := match.Head(r, env)
					if ok && slices.Contains(w.Names, f.At) && !yield(f) {
						return
					}
				}
			}
		}
	}
}

// bindings are those by which a rule's body is among m, its Home being home. Variables that the head does not ask are let go, and what differs in them alone comes once.
func bindings(r api.Rule, home string, m []api.Fact) iter.Seq[[]api.Bind] {
	return func(yield func([]api.Bind) bool) {
		env, ok := match.Unify(r.Home, api.Const{S: home}, nil)
		if !ok {
			return
		}
		spans := spansOf(r)
		numbers, ok := choices(r, env, m, spans)
		if !ok {
			return
		}
		w := walk{rule: r, facts: m, spans: spans, numbers: numbers, met: map[string]struct{}{}}
		w.through(env, yield)
	}
}
