package plan_test

import (
	"math/rand"
	"slices"
	"strconv"
	"strings"
	"testing"

	"avowal/api"
	"avowal/fact"
	"avowal/match"
	"avowal/parse"
	"avowal/plan"
)

func num(n int) api.Const { return api.Const{Num: true, N: n} }

func text(s string) api.Const { return api.Const{S: s} }

func variable(s string) api.Term { return api.Term{Var: s} }

func value(c api.Const) api.Term { return api.Term{Val: c} }

func name(s string) api.Term { return value(text(s)) }

func number(n int) api.Term { return value(num(n)) }

func terms(l ...api.Term) []api.Term { return l }

// rule is what the text of one is parsed as.
func rule(t *testing.T, s string) api.Rule {
	t.Helper()
	l, at, e := parse.Program(s)
	if e != api.OK || len(l) != 1 {
		t.Fatalf("%q: %d at %d, %d rules", s, e, at, len(l))
	}
	return l[0]
}

// facts are those of a text, with semicolons between: the place (and, behind a dot, who says it there), the predicate, the arguments: a number, else a text.
func facts(s string) (l []api.Fact) {
	for _, one := range strings.Split(s, ";") {
		words := strings.Fields(one)
		if len(words) == 0 {
			continue
		}
		at, by, is := strings.Cut(words[0], ".")
		if !is {
			by = at
		}
		f := api.Fact{At: at, By: by, Pred: words[1]}
		for _, x := range words[2:] {
			if n, err := strconv.Atoi(x); err == nil {
				f.Args = append(f.Args, num(n))
			} else {
				f.Args = append(f.Args, text(x))
			}
		}
		l = append(l, f)
	}
	return l
}

// one is the fact of a text; of none the zero fact.
func one(s string) api.Fact {
	if l := facts(s); len(l) == 1 {
		return l[0]
	}
	return api.Fact{}
}

// lists are lists of facts, with bars between.
func lists(s string) (l [][]api.Fact) {
	if s == "" {
		return nil
	}
	for _, x := range strings.Split(s, "|") {
		l = append(l, facts(x))
	}
	return l
}

func sameFact(a, b api.Fact) bool {
	return a.At == b.At && a.By == b.By && a.Pred == b.Pred && slices.Equal(a.Args, b.Args)
}

func sameFacts(a, b []api.Fact) bool { return slices.EqualFunc(a, b, sameFact) }

func sameLists(a, b [][]api.Fact) bool { return slices.EqualFunc(a, b, sameFacts) }

// has tells whether a list is one of some.
func has(l [][]api.Fact, b []api.Fact) bool {
	return slices.ContainsFunc(l, func(c []api.Fact) bool { return sameFacts(b, c) })
}

// ordered tells whether lists of as many facts are in order, each once.
func ordered(l [][]api.Fact) bool {
	for i := 1; i < len(l); i++ {
		if below(l[i-1], l[i]) >= 0 {
			return false
		}
	}
	return true
}

// below is the order of bodies: by their facts, one by one.
func below(a, b []api.Fact) int {
	for i := range a {
		if o := fact.Order(a[i], b[i]); o != 0 {
			return o
		}
	}
	return 0
}

// What stands from here to wantBodies is P14.1 and P14.2 by their words: all is counted anew for each number, and each fact of l is tried for each literal, in the rule's order.

func wantOrder(r api.Rule, first int) (order []int) {
	for i := range r.Body {
		if i == first {
			order = append(order, i)
		}
	}
	for len(order) < len(r.Body) {
		best, most := -1, -1
		for i := range r.Body {
			if n := wantKnown(r, order, i); n > most && !slices.Contains(order, i) {
				best, most = i, n
			}
		}
		order = append(order, best)
	}
	return order
}

// wantKnown is how many known terms a literal has, those of an order being ahead of it.
func wantKnown(r api.Rule, order []int, i int) (many int) {
	ahead := terms(r.Home)
	for _, j := range order {
		ahead = append(append(ahead, r.Body[j].By, r.Body[j].At), r.Body[j].Args...)
	}
	for _, t := range append(terms(r.Body[i].By), r.Body[i].Args...) {
		switch {
		case t == api.Term{}:
		case t.Var == "":
			many++
		case slices.ContainsFunc(ahead, func(x api.Term) bool { return x.Var == t.Var }):
			many++
		}
	}
	return many
}

func wantBodies(r api.Rule, me string, first int, f api.Fact, l []api.Fact) (all [][]api.Fact) {
	env, ok := match.Unify(r.Home, text(me), nil)
	if !ok {
		return nil
	}
	wantRest(r, first, f, l, nil, env, func(body []api.Fact) { all = append(all, body) })
	slices.SortFunc(all, below)
	return slices.CompactFunc(all, sameFacts)
}

// wantRest tells the bodies that begin with some facts, by which env is bound.
func wantRest(r api.Rule, first int, f api.Fact, l, body []api.Fact, env []api.Bind, tell func([]api.Fact)) {
	k := len(body)
	if k == len(r.Body) {
		tell(body)
		return
	}
	from := l
	if k == first {
		from = []api.Fact{f}
	}
	for _, g := range from {
		if next, ok := match.Literal(r.Home, r.Body[k], g, env); ok {
			wantRest(r, first, f, l, append(slices.Clone(body), g), next, tell)
		}
	}
}

// holdOrder, and holdBodies, hold what the package tells against the words above.

func holdOrder(t *testing.T, r api.Rule, first int) []int {
	t.Helper()
	got := plan.Order(r, first)
	if want := wantOrder(r, first); !slices.Equal(got, want) {
		t.Fatalf("Order of %+v, %d: %d; want %d", r, first, got, want)
	}
	return got
}

func holdBodies(t *testing.T, r api.Rule, me string, first int, f api.Fact, l []api.Fact) [][]api.Fact {
	t.Helper()
	got := plan.Bodies(r, me, first, f, l)
	if want := wantBodies(r, me, first, f, l); !sameLists(got, want) || !ordered(got) {
		t.Fatalf("Bodies of %+v, %q, %d, %+v, %+v:\n%+v\nwant\n%+v", r, me, first, f, l, got, want)
	}
	return got
}

// maker makes rules and facts, of few names, so that much is found; in odd of a hundred terms of a kind that no program has.
type maker struct {
	*rand.Rand
	odd int
}

func pick[T any](m maker, l ...T) T { return l[m.Intn(len(l))] }

// oddConsts are constants that may not be.
func oddConsts() []api.Const {
	return []api.Const{{}, {N: 1, S: "a"}, {Num: true, N: 1, S: "a"}, {Num: true, S: "a"}, {N: 1}, {N: -1}, {Num: true, S: "\x00"}}
}

// oddTerms are terms that no program has.
func oddTerms() []api.Term {
	l := []api.Term{{}, {Var: "X", Val: num(1)}, {Var: "A", Val: text("a")}, {Var: "x"}, {Var: " "}}
	for _, c := range oddConsts() {
		l = append(l, value(c))
	}
	return l
}

func (m maker) constant() api.Const {
	if m.Intn(100) < m.odd {
		return pick(m, oddConsts()...)
	}
	return pick(m, text("a"), text("b"), num(1), num(2), num(1), text("a"))
}

// term is one that stands among arguments.
func (m maker) term() api.Term {
	switch {
	case m.Intn(100) < m.odd:
		return pick(m, oddTerms()...)
	case m.Intn(8) > 0:
		return variable(pick(m, "A", "B", "X", "Y", "Z", "X", "Y", "Z", "W", "Y"))
	}
	return value(m.constant())
}

// place is a principal's term.
func (m maker) place() api.Term {
	switch {
	case m.Intn(100) < m.odd:
		return pick(m, oddTerms()...)
	case m.Intn(3) > 0:
		return variable(pick(m, "A", "B", "B", "X"))
	}
	return name(pick(m, "a", "b", "c"))
}

// perhaps is a principal's term, or none.
func (m maker) perhaps() api.Term {
	if m.Intn(4) > 0 {
		return api.Term{}
	}
	return m.place()
}

// sized is a predicate with its number of arguments: mostly as many as it always has.
func (m maker) sized() (pred string, many int) {
	pred = pick(m, "p", "q", "e", "e", "t")
	many = 1
	switch pred {
	case "e":
		many = 2
	case "t":
		many = 3
	}
	if m.Intn(100) < m.odd {
		many = m.Intn(4)
	}
	return pred, many
}

func (m maker) args(many int) (l []api.Term) {
	for range many {
		l = append(l, m.term())
	}
	return l
}

// rule is one with at most so many literals.
func (m maker) rule(most int) api.Rule {
	r := api.Rule{Home: variable("A"), Pred: "h", To: m.perhaps(), Args: m.args(m.Intn(3))}
	if m.Intn(4) == 0 {
		r.Home = m.place()
	}
	for range max(m.Intn(most+1), m.Intn(most+1)) {
		pred, many := m.sized()
		r.Body = append(r.Body, api.Literal{By: m.perhaps(), Pred: pred, Args: m.args(many), At: m.perhaps()})
	}
	return r
}

func (m maker) fact() api.Fact {
	pred, many := m.sized()
	f := api.Fact{At: pick(m, "a", "a", "a", "a", "b", "c"), Pred: pred}
	f.By = f.At
	if m.Intn(4) == 0 {
		f.By = pick(m, "a", "b", "c", "")
	}
	for range many {
		f.Args = append(f.Args, m.constant())
	}
	return f
}

func (m maker) facts(most int) (l []api.Fact) {
	for range max(m.Intn(most+1), m.Intn(most+1)) {
		l = append(l, m.fact())
	}
	return l
}

// first is a literal's number, or mostly one near by.
func (m maker) first(r api.Rule) int { return m.Intn(len(r.Body)+2) - 1 }

// of is one of some facts, or any: so that f is in l and not in it.
func (m maker) of(l []api.Fact) api.Fact {
	if len(l) > 0 && m.Intn(2) > 0 {
		return pick(m, l...)
	}
	return m.fact()
}

// instance is a fact that a literal at a home may take.
func (m maker) instance(x api.Literal) api.Fact {
	f := api.Fact{At: "a", Pred: x.Pred}
	if x.At != (api.Term{}) {
		f.At = pick(m, "a", "b", "c")
	}
	f.By = f.At
	if x.By != (api.Term{}) {
		f.By = pick(m, "a", "b", "c")
	}
	for _, t := range x.Args {
		c := t.Val
		if t.Var != "" {
			c = m.constant()
		}
		f.Args = append(f.Args, c)
	}
	return f
}

// suited are facts of which many are such as a rule's literals take.
func (m maker) suited(r api.Rule, most int) []api.Fact {
	l := m.facts(most / 2)
	for range m.Intn(most/2 + 1) {
		if len(r.Body) > 0 {
			l = append(l, m.instance(pick(m, r.Body...)))
		}
	}
	m.Shuffle(len(l), func(i, j int) { l[i], l[j] = l[j], l[i] })
	return l
}
