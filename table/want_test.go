package table_test

import (
	"iter"
	"math/rand"
	"slices"
	"strconv"
	"strings"
	"testing"

	"avowal/api"
	"avowal/fact"
	"avowal/table"
)

func num(n int) api.Const { return api.Const{Num: true, N: n} }

func text(s string) api.Const { return api.Const{S: s} }

func longest() string { return strings.Repeat("x", api.MaxText) }

// said is a fact of a place, a sayer, a predicate.
func said(at, by, pred string, args ...api.Const) api.Fact {
	return api.Fact{At: at, By: by, Pred: pred, Args: args}
}

// facts are those of a text, with semicolons between: the place (and, behind a dot, who says it there), the predicate, the arguments: a number, else a text.
func facts(s string) (l []api.Fact) {
	for one := range strings.SplitSeq(s, ";") {
		words := strings.Fields(one)
		if len(words) == 0 {
			continue
		}
		at, by, is := strings.Cut(words[0], ".")
		if !is {
			by = at
		}
		f := said(at, by, words[1])
		for _, x := range words[2:] {
			if n, err := strconv.Atoi(x); err == nil {
				f.Args = append(f.Args, num(n))
			} else {
				f.Args = append(f.Args, text(x))
			}
		}
		l = append(l, f)
	}
	return l
}

// one is the fact of a text.
func one(s string) api.Fact { return facts(s)[0] }

func sameFact(a, b api.Fact) bool {
	return a.At == b.At && a.By == b.By && a.Pred == b.Pred && slices.Equal(a.Args, b.Args)
}

func sameFacts(a, b []api.Fact) bool { return slices.EqualFunc(a, b, sameFact) }

// deep is a list with nothing in common with another one.
func deep(l []api.Fact) []api.Fact {
	m := slices.Clone(l)
	for i := range m {
		m[i].Args = slices.Clone(m[i].Args)
	}
	return m
}

// made is a table into which facts were put.
func made(t *testing.T, limit int, l ...api.Fact) *table.Table {
	t.Helper()
	x, e := table.New(limit)
	if e != api.OK || x == nil {
		t.Fatalf("New(%d): %d", limit, e)
	}
	for _, f := range l {
		if e := x.Put(f); e != api.OK {
			t.Fatalf("Put(%+v): %d", f, e)
		}
	}
	return x
}

// What stands from here to hold is P15.1 and P15.2 by their words: a list that grows as facts are put, looked through whole and sorted whenever it is asked.

type want struct {
	limit int
	l     []api.Fact
}

func (w *want) has(f api.Fact) bool {
	return slices.ContainsFunc(w.l, func(g api.Fact) bool { return sameFact(f, g) })
}

func (w *want) put(f api.Fact) api.Errno {
	switch {
	case fact.Check(f) != api.OK:
		return api.ErrFact
	case w.has(f):
		return api.ErrTwice
	case len(w.l) == w.limit:
		return api.ErrFull
	}
	w.l = append(w.l, deep([]api.Fact{f})...)
	return api.OK
}

func (w *want) take(f api.Fact) api.Errno {
	if !w.has(f) {
		return api.ErrNone
	}
	w.l = slices.DeleteFunc(w.l, func(g api.Fact) bool { return sameFact(f, g) })
	return api.OK
}

func (w *want) all() []api.Fact {
	l := slices.Clone(w.l)
	slices.SortFunc(l, fact.Order)
	return l
}

func (w *want) of(at, by, pred string) (l []api.Fact) {
	for _, f := range w.all() {
		if (at == "" || f.At == at) && (by == "" || f.By == by) && (pred == "" || f.Pred == pred) {
			l = append(l, f)
		}
	}
	return l
}

func (w *want) find(pred string, place int, c api.Const) (l []api.Fact) {
	for _, f := range w.all() {
		for i, x := range f.Args {
			if f.Pred == pred && i == place && x == c {
				l = append(l, f)
			}
		}
	}
	return l
}

func (w *want) clone() *want { return &want{limit: w.limit, l: deep(w.l)} }

// asks are ranges of a table, each with what it should tell.
type asks struct {
	name string
	got  iter.Seq[api.Fact]
	want []api.Fact
}

// asked are all ranges about some names and constants.
func asked(x *table.Table, w *want, names []string, constants []api.Const) (l []asks) {
	l = append(l, asks{"All", x.All(), w.all()})
	for _, at := range names {
		for _, by := range names {
			for _, pred := range names {
				l = append(l, asks{"Of " + strings.Join([]string{at, by, pred}, ", "), x.Of(at, by, pred), w.of(at, by, pred)})
			}
		}
	}
	for _, pred := range names {
		for place := -1; place < 4; place++ {
			for _, c := range constants {
				name := "Find " + strings.Join([]string{pred, strconv.Itoa(place), strconv.Itoa(c.N), c.S}, ", ")
				l = append(l, asks{name, x.Find(pred, place, c), w.find(pred, place, c)})
			}
		}
	}
	return l
}

// hold holds a table against what it should be.
func hold(t *testing.T, x *table.Table, w *want, universe []api.Fact, names []string, constants []api.Const) {
	t.Helper()
	if x.Len() != len(w.l) {
		t.Fatalf("Len of %+v: %d", w.l, x.Len())
	}
	for _, f := range universe {
		if x.Has(f) != w.has(f) {
			t.Fatalf("%+v: Has of %+v: %t", w.l, f, x.Has(f))
		}
	}
	for _, a := range asked(x, w, names, constants) {
		for range 2 { // and gone over again
			if got := slices.Collect(a.got); !sameFacts(got, a.want) {
				t.Fatalf("%s of %+v: %+v; want %+v", a.name, w.l, got, a.want)
			}
		}
	}
}

// maker makes facts of few names and constants, so that many are the same.
type maker struct{ *rand.Rand }

func pick[T any](m maker, l ...T) T { return l[m.Intn(len(l))] }

func names() []string { return []string{"", "a", "b", "ab", "p"} }

func constants() []api.Const {
	return []api.Const{num(0), num(1), num(-1), text("a"), text("1"), {}, {N: 1}, {N: 1, S: "a"}, {Num: true, S: "a"}}
}

// fact is one that may be, mostly.
func (m maker) fact() api.Fact {
	f := said(pick(m, "a", "b", "ab"), pick(m, "a", "b"), pick(m, "p", "p", "a"))
	for range m.Intn(4) {
		f.Args = append(f.Args, pick(m, num(0), num(1), text("a"), text("1")))
	}
	if m.Intn(12) == 0 {
		return pick(m, m.odd(f)...)
	}
	return f
}

// odd are facts like one that may be, none of which may be.
func (m maker) odd(f api.Fact) (l []api.Fact) {
	for _, s := range []string{"", longest() + "x"} {
		l = append(l, said(s, f.By, f.Pred, f.Args...), said(f.At, s, f.Pred, f.Args...), said(f.At, f.By, s, f.Args...))
	}
	for _, c := range []api.Const{{}, {N: 1}, {N: 1, S: "a"}, {Num: true, S: "a"}, text(longest() + "x")} {
		args := append(slices.Clone(f.Args), c)
		l = append(l, said(f.At, f.By, f.Pred, args...))
	}
	return append(l, said(f.At, f.By, f.Pred, slices.Repeat([]api.Const{num(1)}, api.MaxWide+1)...))
}
