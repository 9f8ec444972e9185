package model_test

import (
	"math/rand"
	"slices"
	"strconv"
	"strings"
	"testing"

	"avowal/api"
	"avowal/fact"
	"avowal/match"
	"avowal/model"
	"avowal/parse"
)

func num(n int) api.Const { return api.Const{Num: true, N: n} }

func text(s string) api.Const { return api.Const{S: s} }

func variable(s string) api.Term { return api.Term{Var: s} }

func value(c api.Const) api.Term { return api.Term{Val: c} }

func name(s string) api.Term { return value(text(s)) }

func number(n int) api.Term { return value(num(n)) }

func terms(l ...api.Term) []api.Term { return l }

// facts are those of a text, with semicolons between: the place (and, behind a dot, who says it there), the predicate, the arguments: a number, else a text.
func facts(s string) (l []api.Fact) {
	for _, one := range strings.Split(s, ";") {
		words := strings.Fields(one)
		if len(words) == 0 {
			continue
		}
		at, by, is := strings.Cut(words[0], ".")
		if !is {
			by = at
		}
		f := api.Fact{At: at, By: by, Pred: words[1]}
		for _, x := range words[2:] {
			if n, err := strconv.Atoi(x); err == nil {
				f.Args = append(f.Args, num(n))
			} else {
				f.Args = append(f.Args, text(x))
			}
		}
		l = append(l, f)
	}
	return l
}

// program is the rules of a text.
func program(t *testing.T, s string) []api.Rule {
	t.Helper()
	l, at, e := parse.Program(s)
	if e != api.OK {
		t.Fatalf("%q: %d at %d", s, e, at)
	}
	return l
}

// world is one of names with blanks between.
func world(homes, names string) model.World {
	return model.World{Homes: strings.Fields(homes), Names: strings.Fields(names)}
}

func sameFact(a, b api.Fact) bool {
	return a.At == b.At && a.By == b.By && a.Pred == b.Pred && slices.Equal(a.Args, b.Args)
}

func sameFacts(a, b []api.Fact) bool { return slices.EqualFunc(a, b, sameFact) }

// within tells whether each of a is one of b.
func within(a, b []api.Fact) bool {
	return !slices.ContainsFunc(a, func(f api.Fact) bool { return !fact.Has(b, f) })
}

// inOrder tells whether facts are in order, each once.
func inOrder(l []api.Fact) bool {
	for i := 1; i < len(l); i++ {
		if fact.Order(l[i-1], l[i]) >= 0 {
			return false
		}
	}
	return true
}

// What stands from here to wantClosed is P12.1 to P12.3 by their words: each choice of facts, one behind the other.

func wantOnce(w model.World, l []api.Rule, m []api.Fact) (told []api.Fact) {
	for _, r := range l {
		for _, home := range w.Homes {
			if env, ok := match.Unify(r.Home, text(home), nil); ok {
				told = append(told, wantHeads(w, r, r.Body, m, env)...)
			}
		}
	}
	return fact.Sorted(told...)
}

func wantHeads(w model.World, r api.Rule, rest []api.Literal, m []api.Fact, env []api.Bind) (told []api.Fact) {
	if len(rest) == 0 {
		if f, ok := match.Head(r, env); ok && slices.Contains(w.Names, f.At) {
			told = append(told, f)
		}
		return told
	}
	for _, f := range m {
		if next, ok := match.Literal(r.Home, rest[0], f, env); ok {
			told = append(told, wantHeads(w, r, rest[1:], m, next)...)
		}
	}
	return told
}

func wantLeast(w model.World, l []api.Rule, base []api.Fact) ([]api.Fact, api.Errno) {
	m := fact.Sorted(base...)
	for {
		if len(m) > 400 {
			return nil, api.ErrFull
		}
		next := fact.Sorted(slices.Concat(m, wantOnce(w, l, m))...)
		if len(next) == len(m) {
			return m, api.OK
		}
		m = next
	}
}

func wantClosed(w model.World, l []api.Rule, m []api.Fact) bool {
	return within(wantOnce(w, l, m), m)
}

// holdOnce, and those behind it, hold what the package tells against the words above.

func holdOnce(t *testing.T, w model.World, l []api.Rule, m []api.Fact) []api.Fact {
	t.Helper()
	got := model.Once(w, l, m)
	if want := wantOnce(w, l, m); !sameFacts(got, want) || !inOrder(got) {
		t.Fatalf("Once of %+v, %+v, %+v: %+v; want %+v", w, l, m, got, want)
	}
	return got
}

func holdLeast(t *testing.T, w model.World, l []api.Rule, base []api.Fact) ([]api.Fact, api.Errno) {
	t.Helper()
	got, e := model.Least(w, l, base)
	if want, is := wantLeast(w, l, base); !sameFacts(got, want) || e != is || !inOrder(got) {
		t.Fatalf("Least of %+v, %+v, %+v: %+v, %d; want %+v, %d", w, l, base, got, e, want, is)
	}
	return got, e
}

func holdClosed(t *testing.T, w model.World, l []api.Rule, m []api.Fact) bool {
	t.Helper()
	got := model.Closed(w, l, m)
	if got != wantClosed(w, l, m) {
		t.Fatalf("Closed of %+v, %+v, %+v: %t", w, l, m, got)
	}
	return got
}

// maker makes worlds, rules and facts, of few names, so that much follows; in odd of a hundred terms of a kind that no program has.
type maker struct {
	*rand.Rand
	odd int
}

func pick[T any](m maker, l ...T) T { return l[m.Intn(len(l))] }

// oddConsts are constants that may not be.
func oddConsts() []api.Const {
	return []api.Const{{}, {N: 1, S: "a"}, {Num: true, N: 1, S: "a"}, {Num: true, S: "a"}, {N: 1}, {N: -1}, {Num: true, S: "\x00"}}
}

// oddTerms are terms that no program has.
func oddTerms() []api.Term {
	l := []api.Term{{}, {Var: "X", Val: num(1)}, {Var: "A", Val: text("a")}, {Var: "x"}, {Var: " "}}
	for _, c := range oddConsts() {
		l = append(l, value(c))
	}
	return l
}

func (m maker) constant() api.Const {
	if m.Intn(100) < m.odd {
		return pick(m, oddConsts()...)
	}
	return pick(m, text("a"), text("b"), num(1), num(2), num(1), text("a"))
}

// term is one that stands among arguments.
func (m maker) term() api.Term {
	switch {
	case m.Intn(100) < m.odd:
		return pick(m, oddTerms()...)
	case m.Intn(8) > 0:
		return variable(pick(m, "A", "B", "X", "Y", "Z", "X", "Y", "Z", "X", "Y"))
	}
	return value(m.constant())
}

// place is a principal's term.
func (m maker) place() api.Term {
	switch {
	case m.Intn(100) < m.odd:
		return pick(m, oddTerms()...)
	case m.Intn(3) > 0:
		return variable(pick(m, "A", "A", "B", "X"))
	}
	return name(pick(m, "a", "b", "c"))
}

// perhaps is a principal's term, or none.
func (m maker) perhaps() api.Term {
	if m.Intn(5) > 0 {
		return api.Term{}
	}
	return m.place()
}

// sized is a predicate with arguments: mostly as many as it always has.
func (m maker) sized() (pred string, many int) {
	pred = pick(m, "p", "q", "e", "p", "q")
	many = 1
	if pred == "e" {
		many = 2
	}
	if m.Intn(100) < m.odd {
		many = m.Intn(4)
	}
	return pred, many
}

func (m maker) args(many int) (l []api.Term) {
	for range many {
		l = append(l, m.term())
	}
	return l
}

// rule is one whose head has mostly variables that are bound: what else follows is little.
func (m maker) rule() api.Rule {
	r := api.Rule{Home: variable("A"), To: m.perhaps()}
	if m.Intn(3) == 0 {
		r.Home = m.place()
	}
	bound := terms(r.Home)
	for range pick(m, 0, 1, 1, 1, 2, 2, 2, 2, 3, 3, 4) {
		pred, many := m.sized()
		x := api.Literal{By: m.perhaps(), Pred: pred, Args: m.args(many), At: m.perhaps()}
		r.Body = append(r.Body, x)
		bound = append(bound, x.Args...)
	}
	pred, many := m.sized()
	r.Pred, r.Args = pred, m.args(many)
	for i := range r.Args {
		if m.Intn(10) > 0 {
			r.Args[i] = pick(m, bound...)
		}
	}
	return r
}

func (m maker) rules() (l []api.Rule) {
	for range (m.Intn(10) + 2) / 3 { // none is rare
		l = append(l, m.rule())
	}
	return l
}

func (m maker) fact() api.Fact {
	pred, many := m.sized()
	f := api.Fact{At: pick(m, "a", "b", "a", "a", "b", "c"), Pred: pred}
	f.By = f.At
	if m.Intn(5) == 0 {
		f.By = pick(m, "a", "b", "c", "")
	}
	for range many {
		f.Args = append(f.Args, m.constant())
	}
	return f
}

func (m maker) facts(most int) (l []api.Fact) {
	for range max(m.Intn(most+1), m.Intn(most+1)) {
		l = append(l, m.fact())
	}
	return l
}

func (m maker) names() []string {
	switch m.Intn(12) {
	case 0:
		return []string{"a"}
	case 1:
		return []string{"b", "a", "", "b"}
	case 2:
		return []string{"c", "b", "1"}
	}
	return []string{"a", "b", "c"}
}

func (m maker) world() model.World { return model.World{Homes: m.names(), Names: m.names()} }
