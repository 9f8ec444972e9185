package book_test

import (
	"math"
	"math/rand"
	"slices"
	"strconv"
	"strings"
	"testing"

	"avowal/api"
	"avowal/book"
	"avowal/fact"
)

func num(n int) api.Const { return api.Const{Num: true, N: n} }

func text(s string) api.Const { return api.Const{S: s} }

// one is the fact of a text: the place (and, behind a dot, who says it there), the predicate, the arguments: a number, else a text.
func one(s string) api.Fact {
	words := strings.Fields(s)
	at, by, is := strings.Cut(words[0], ".")
	if !is {
		by = at
	}
	f := api.Fact{At: at, By: by, Pred: words[1]}
	for _, x := range words[2:] {
		if n, err := strconv.Atoi(x); err == nil {
			f.Args = append(f.Args, num(n))
		} else {
			f.Args = append(f.Args, text(x))
		}
	}
	return f
}

// facts are those of a text, with semicolons between.
func facts(s string) (l []api.Fact) {
	for x := range strings.SplitSeq(s, ";") {
		if strings.TrimSpace(x) != "" {
			l = append(l, one(x))
		}
	}
	return l
}

// deriv is the derivation of a text: the rule's number, the head, < and the body.
func deriv(s string) api.Deriv {
	front, body, _ := strings.Cut(s, "<")
	number, head, _ := strings.Cut(strings.TrimSpace(front), " ")
	n, err := strconv.Atoi(number)
	if err != nil {
		panic(s)
	}
	return api.Deriv{Rule: n, Head: one(head), Body: facts(body)}
}

// derivs are those of a text, with bars between.
func derivs(s string) (l []api.Deriv) {
	for x := range strings.SplitSeq(s, "|") {
		if strings.TrimSpace(x) != "" {
			l = append(l, deriv(x))
		}
	}
	return l
}

// made is a book to which derivations were added.
func made(t *testing.T, l ...api.Deriv) *book.Book {
	t.Helper()
	b := book.New()
	if b == nil || b.Len() != 0 {
		t.Fatal("New is no book without derivations")
	}
	for _, d := range l {
		if !b.Add(d) {
			t.Fatalf("Add(%+v): false", d)
		}
	}
	return b
}

func sameFact(a, b api.Fact) bool {
	return a.At == b.At && a.By == b.By && a.Pred == b.Pred && slices.Equal(a.Args, b.Args)
}

func sameFacts(a, b []api.Fact) bool { return slices.EqualFunc(a, b, sameFact) }

func sameDeriv(a, b api.Deriv) bool {
	return a.Rule == b.Rule && sameFact(a.Head, b.Head) && sameFacts(a.Body, b.Body)
}

func sameDerivs(a, b []api.Deriv) bool { return slices.EqualFunc(a, b, sameDeriv) }

func deepFact(f api.Fact) api.Fact {
	f.Args = slices.Clone(f.Args)
	return f
}

// deep is a derivation with nothing in common with another one.
func deep(d api.Deriv) api.Deriv {
	d.Head = deepFact(d.Head)
	d.Body = slices.Clone(d.Body)
	for i, f := range d.Body {
		d.Body[i] = deepFact(f)
	}
	return d
}

func deeps(l []api.Deriv) []api.Deriv {
	m := slices.Clone(l)
	for i, d := range m {
		m[i] = deep(d)
	}
	return m
}

func hasFact(l []api.Fact, f api.Fact) bool {
	return slices.ContainsFunc(l, func(g api.Fact) bool { return sameFact(f, g) })
}

func hasDeriv(l []api.Deriv, d api.Deriv) bool {
	return slices.ContainsFunc(l, func(x api.Deriv) bool { return sameDeriv(d, x) })
}

// What stands from here to follows is P16.1 to P16.3 by their words: a list that grows, looked through whole and sorted whenever it is asked.

type want struct{ l []api.Deriv }

func (w *want) add(d api.Deriv) bool {
	if hasDeriv(w.l, d) {
		return false
	}
	w.l = append(w.l, deep(d))
	return true
}

func (w *want) drop(d api.Deriv) bool {
	before := len(w.l)
	w.l = slices.DeleteFunc(w.l, func(x api.Deriv) bool { return sameDeriv(d, x) })
	return len(w.l) < before
}

func (w *want) clone() *want { return &want{deeps(w.l)} }

// compare is -1 where a derivation is below another one, by P16.1's words.
func compare(a, b api.Deriv) int {
	if a.Rule < b.Rule {
		return -1
	}
	if a.Rule > b.Rule {
		return 1
	}
	if o := fact.Order(a.Head, b.Head); o != 0 {
		return o
	}
	for i := range min(len(a.Body), len(b.Body)) {
		if o := fact.Order(a.Body[i], b.Body[i]); o != 0 {
			return o
		}
	}
	return len(a.Body) - len(b.Body)
}

func (w *want) those(is func(api.Deriv) bool) (l []api.Deriv) {
	for _, d := range w.l {
		if is(d) {
			l = append(l, d)
		}
	}
	slices.SortFunc(l, compare)
	return l
}

func (w *want) of(f api.Fact) []api.Deriv {
	return w.those(func(d api.Deriv) bool { return sameFact(d.Head, f) })
}

func (w *want) uses(f api.Fact) []api.Deriv {
	return w.those(func(d api.Deriv) bool { return hasFact(d.Body, f) })
}

func (w *want) heads() []api.Fact {
	var l []api.Fact
	for _, d := range w.l {
		l = append(l, d.Head)
	}
	return fact.Sorted(l...)
}

func (w *want) founded(base []api.Fact) []api.Fact {
	l := slices.Clone(base)
	for more := true; more; {
		more = false
		for _, d := range w.l {
			if !hasFact(l, d.Head) && !slices.ContainsFunc(d.Body, func(f api.Fact) bool { return !hasFact(l, f) }) {
				l, more = append(l, d.Head), true
			}
		}
	}
	return fact.Sorted(l...)
}

// all are the facts of derivations, each once.
func all(l []api.Deriv) []api.Fact {
	var m []api.Fact
	for _, d := range l {
		m = append(append(m, d.Head), d.Body...)
	}
	return fact.Sorted(m...)
}

// hold holds a book against what it should be: of the facts of some derivations, which it may have or not, and founded from some bases.
func hold(t *testing.T, b *book.Book, w *want, universe []api.Deriv, bases ...[]api.Fact) {
	t.Helper()
	if b.Len() != len(w.l) {
		t.Fatalf("Len of %+v: %d", w.l, b.Len())
	}
	for _, f := range append(all(universe), one("nobody knows it")) {
		if got := b.Of(f); !sameDerivs(got, w.of(f)) {
			t.Fatalf("Of %+v: %+v; want %+v", f, got, w.of(f))
		}
		if got := b.Uses(f); !sameDerivs(got, w.uses(f)) {
			t.Fatalf("Uses of %+v: %+v; want %+v", f, got, w.uses(f))
		}
	}
	if got := b.Heads(); !sameFacts(got, w.heads()) {
		t.Fatalf("Heads of %+v: %+v", w.l, got)
	}
	for _, base := range append(bases, nil) {
		if got := b.Founded(base...); !sameFacts(got, w.founded(base)) {
			t.Fatalf("%+v: Founded of %+v: %+v; want %+v", w.l, base, got, w.founded(base))
		}
	}
}

// maker makes facts of few names and constants, and derivations of few facts, so that many are the same.
type maker struct{ *rand.Rand }

func pick[T any](m maker, l ...T) T { return l[m.Intn(len(l))] }

// few are facts that may be, and some that may not.
func few() []api.Fact {
	return append(odd(), facts("a p; a p 1; a p 2; a p 1 1; a.b p 1; b.a p 1; b p 1; a q 1; a p x; b q")...)
}

// odd are facts that the layers beneath refuse.
func odd() []api.Fact {
	wide := one("a p")
	wide.Args = slices.Repeat([]api.Const{num(1)}, api.MaxWide+1)
	l := []api.Fact{{}, {At: "a"}, {By: "a"}, {Pred: "p"}, wide}
	for _, c := range []api.Const{{}, {N: 1}, {N: 1, S: "x"}, {Num: true, S: "x"}, {Num: true, N: 1, S: "x"}, text(strings.Repeat("x", api.MaxText+1)), num(math.MinInt), num(math.MaxInt)} {
		l = append(l, api.Fact{At: "a", By: "a", Pred: "p", Args: []api.Const{c}})
	}
	return l
}

// among are some of a list, in whatever order, some of them twice.
func (m maker) among(l []api.Fact) (some []api.Fact) {
	for range m.Intn(5) {
		some = append(some, pick(m, l...))
	}
	return some
}

// deriv is one about a list's facts.
func (m maker) deriv(l []api.Fact) api.Deriv {
	rule := pick(m, 0, 0, 0, 1, 1, 2, -1, math.MinInt, math.MaxInt)
	return deep(api.Deriv{Rule: rule, Head: pick(m, l...), Body: m.among(l)})
}
