package local

import (
	"slices"
	"strconv"

	"avowal/api"
	"avowal/check"
)

// mark begins a relay's predicate: no word of a text does, so that no program has a relay of its own.
const mark = "~"

// split tells the rules that rule i becomes. Of each remote literal there are two ahead of the rule itself: one asks at the literal's place, with all that is bound by then, one tells from there what was found. So what was reached ahead of it is in what was told, and is not looked for again.
func split(r api.Rule, i int) []api.Rule {
	var all []api.Rule
	var reached []api.Literal
	for k, x := range r.Body {
		if !isRemote(x, r.Home) {
			reached = append(reached, here(x))
			continue
		}
		ask, tell := relay("ask", i, k), relay("tell", i, k)
		asked := api.Literal{By: r.Home, Pred: ask, Args: variables(r, k)}
		all = append(all,
			api.Rule{Home: r.Home, Pred: ask, Args: variables(r, k), To: x.At, Body: reached},
			api.Rule{Home: x.At, Pred: tell, Args: variables(r, k+1), To: r.Home, Body: []api.Literal{asked, here(x)}})
		reached = []api.Literal{{By: x.At, Pred: tell, Args: variables(r, k+1)}}
	}
	return append(all, api.Rule{Home: r.Home, Pred: r.Pred, Args: slices.Clone(r.Args), To: r.To, Body: reached})
}

// isRemote compares terms, not names: a place that only turns out to be the home is asked like any other.
func isRemote(x api.Literal, home api.Term) bool { return x.At != api.Term{} && x.At != home }

// here is a literal as it stands in a rule whose home is its place.
func here(x api.Literal) api.Literal {
	return api.Literal{By: x.By, Pred: x.Pred, Args: slices.Clone(x.Args)}
}

// relay is the predicate by which literal k of rule i is asked or told.
func relay(verb string, i, k int) string {
	return mark + verb + strconv.Itoa(i) + "." + strconv.Itoa(k)
}

// variables are those that are bound ahead of literal k, as terms: a list of its own at each call, since each rule and literal has its own.
func variables(r api.Rule, k int) []api.Term {
	var l []api.Term
	for _, v := range check.Bound(r, k) {
		l = append(l, api.Term{Var: v})
	}
	return l
}
