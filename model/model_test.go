package model_test

import (
	"math"
	"math/rand"
	"slices"
	"strconv"
	"strings"
	"testing"

	"avowal/api"
	"avowal/fact"
	"avowal/match"
	"avowal/model"
)

func TestExamples(t *testing.T) { // the chapter's
	w := world("a b", "a b")
	for _, one := range []struct{ rules, once, least string }{
		{"A: p(X) :- q(X).", "a p 1", "a p 1; a q 1"},
		{"A: p(X) to b :- q(X).", "b.a p 1", "a q 1; b.a p 1"},
	} {
		l, q := program(t, one.rules), facts("a q 1")
		if got := model.Once(w, l, q); !sameFacts(got, facts(one.once)) {
			t.Errorf("%s: %+v", one.rules, got)
		}
		if got, e := model.Least(w, l, q); e != api.OK || !sameFacts(got, facts(one.least)) {
			t.Errorf("%s: %+v, %d", one.rules, got, e)
		}
		if model.Closed(w, l, q) || !model.Closed(w, l, facts(one.least)) {
			t.Errorf("%s: Closed", one.rules)
		}
	}
}

func TestExamplesOfTheWhole(t *testing.T) { // the document's: what is known at rest, without relays
	w := world("a b c", "a b c")
	for _, one := range []struct{ rules, base, want string }{
		{"A: p(X) :- q(X).", "a q 1", "a p 1; a q 1"},
		{"A: p(X) to B :- q(X, B).", "a q 1 b", "a q 1 b; b.a p 1"},
		{"A: ok(X) :- B says p(X), trusts(B). b: p(X) to a :- q(X).", "a trusts b; b q 2", "a ok 2; a trusts b; a.b p 2; b q 2"},
		{"A: p(X) :- q(B), r(X) at B.", "a q b; b r 7", "a p 7; a q b; b r 7"},
		{"A: p(X) :- p(X).", "", ""},
		{"A: p(X) to B :- q(X, B).", "", ""},
		{"a: t(X, Z) :- t(X, Y), e(Y, Z). a: t(X, Y) :- e(X, Y).", "a e 1 2; a e 2 1", "a e 1 2; a e 2 1; a t 1 1; a t 1 2; a t 2 1; a t 2 2"},
		{"A: ok(X) :- B says p(X), trusts(B).", "a.c p 9; a trusts b", "a trusts b; a.c p 9"},
		{"A: ok(X) :- B says p(X), trusts(B).", "a.c p 9; a trusts c", "a ok 9; a trusts c; a.c p 9"},
	} {
		holdsLeast(t, w, one.rules, one.base, one.want)
	}
}

func TestNumbers(t *testing.T) { // DOC.md
	if api.MaxModel != 400 || api.ErrFull != 150 || api.OK != 0 {
		t.Error("other numbers")
	}
}

// follows is what Once and Closed tell of rules, homes, names and facts.
type follows struct{ rules, homes, names, facts, want string }

func tells(t *testing.T, l ...follows) {
	t.Helper()
	for _, one := range l {
		w, r, m, want := world(one.homes, one.names), program(t, one.rules), facts(one.facts), facts(one.want)
		if got := holdOnce(t, w, r, m); !sameFacts(got, want) {
			t.Errorf("%+v: %+v", one, got)
		}
		if got := holdClosed(t, w, r, m); got != within(want, m) {
			t.Errorf("%+v: closed %t", one, got)
		}
		holdLeast(t, w, r, m)
	}
}

func TestHomes(t *testing.T) { // P12.1: a variable and a constant, among w.Homes and not; several homes; none that can be
	all := "a q 1; b q 2; c q 3"
	tells(t,
		follows{"A: p(X) :- q(X).", "a b c", "a b c", all, "a p 1; b p 2; c p 3"},
		follows{"A: p(X) :- q(X).", "a c", "a b c", all, "a p 1; c p 3"},
		follows{"A: p(X) :- q(X).", "b", "a b c", all, "b p 2"},
		follows{"A: p(X) :- q(X).", "d", "a b c d", all, ""},
		follows{"A: p(X) :- q(X).", "", "a b c", all, ""},
		follows{"A: p(X) :- q(X).", "A", "a b c A", all, ""},
		follows{"a: p(X) :- q(X).", "a b c", "a b c", all, "a p 1"},
		follows{"b: p(X) :- q(X).", "c b a", "a b c", all, "b p 2"},
		follows{"a: p(X) :- q(X).", "b c", "a b c", all, ""},
		follows{"a: p(X) :- q(X).", "", "a b c", all, ""},
		follows{"5: p(X) :- q(X).", "a 5", "a 5", "5 q 1; a q 1", ""}, // a home is a text
		follows{`"5": p(X) :- q(X).`, "a 5", "a 5", "5 q 1; a q 1", "5 p 1"},
		follows{"A: p(A) :- q(X).", "a b", "a b c", all, "a p a; b p b"},
		follows{"A: p(A) :- q(A).", "a b", "a b", "a q b; b q b; a q a", "a p a; b p b"},
		follows{"A: p(X) :- q(X) at c.", "a b", "a b c", all, "a p 3; b p 3"},
		follows{"A: p(B, X) :- q(X) at B.", "a", "a", all, "a p a 1; a p b 2; a p c 3"},
		follows{"A: p(B) :- q(1) at A, q(2) at B.", "a b", "a b c", all, "a p b"},
	)
}

func TestPlaces(t *testing.T) { // P12.1: heads whose At is one of w.Names, and such whose At is none
	all := "a q b; a q c; b q a"
	tells(t,
		follows{"A: p() to B :- q(B).", "a b", "a b c", all, "a.b p; b.a p; c.a p"},
		follows{"A: p() to B :- q(B).", "a b", "a b", all, "a.b p; b.a p"},
		follows{"A: p() to B :- q(B).", "a b", "c", all, "c.a p"},
		follows{"A: p() to B :- q(B).", "a b", "", all, ""},
		follows{"A: p() to B :- q(B).", "a b", "d B", all, ""},
		follows{"A: p() :- q(B).", "a b", "b", all, "b p"}, // who runs it has no place
		follows{"A: p() to c :- q(B).", "a b", "c", all, "c.a p; c.b p"},
		follows{"A: p() to c :- q(B).", "a b", "a b", all, ""},
		follows{"A: p() to A :- q(B).", "a b", "a b", all, "a p; b p"},
		follows{"A: p(X) to X :- q(X).", "a", "a b 1", "a q 1; a q b", "b.a p b"}, // a number is no place
		follows{"A: p(X) to 1 :- q(X).", "a", "a b 1", "a q 1; a q b", ""},
		follows{"A: p() :- q() at b.", "a", "a", "b q", "a p"}, // whom a literal is asked at must be no name
		follows{"A: p() :- b says q().", "a", "a", "a.b q", "a p"},
	)
}

func TestOneLiteral(t *testing.T) { // P12.1 and P12.2: with and without At and By, several choices and none
	tells(t,
		follows{"A: p(X) :- q(X).", "a", "a", "a q 1; a q x; a q 2; a q 1 1; a q; a r 3; a.b q 4; b q 5", "a p 1; a p 2; a p x"},
		follows{"A: p(X) :- q(X).", "a", "a", "a r 1; a q; b q 1; a.b q 1", ""},
		follows{"A: p(X) :- q(X).", "a", "a", "", ""},
		follows{"A: p() :- q(X).", "a", "a", "a q 1; a q 2; a q 3", "a p"},
		follows{"A: p(X) :- q(X, X).", "a", "a", "a q 1 1; a q 1 2; a q 2 2; a q 2 x; a q x x", "a p 1; a p 2; a p x"},
		follows{"A: p(Y) :- q(1, Y).", "a", "a", "a q 1 1; a q 1 2; a q 2 3; a q 1 x", "a p 1; a p 2; a p x"},
		follows{"A: p() :- q(1).", "a", "a", "a q 2; a q 1 1", ""},
		follows{"A: p(X) :- b says q(X).", "a b", "a b", "a.b q 1; a q 2; b q 3; a.c q 4; b.a q 5", "a p 1; b p 3"},
		follows{"A: p(B, X) :- B says q(X).", "a", "a", "a.b q 1; a q 2; b q 3; a.c q 4", "a p a 2; a p b 1; a p c 4"},
		follows{"A: p(X) :- A says q(X).", "a", "a", "a.b q 1; a q 2", "a p 2"},
		follows{"A: p(X) :- q(X) at b.", "a", "a", "b q 1; a q 2; b.a q 3; b q 4", "a p 1; a p 4"},
		follows{"A: p(X) :- c says q(X) at b.", "a", "a", "b.c q 1; b q 2; c q 3; a.c q 4; c.b q 5", "a p 1"},
		follows{"A: p(B, C, X) :- C says q(X) at B.", "a", "a", "b.c q 1; b q 2; c.a q 3", "a p b b 2; a p b c 1; a p c a 3"},
		follows{"A: p(B) :- B says q() at B.", "a", "a", "b.c q; b q; c.a q; a q", "a p a; a p b"},
		follows{"A: p(B) :- B says q(B) at B.", "a", "a", "b q b; c q b", "a p b"},
	)
}

func TestSeveralLiterals(t *testing.T) { // P12.1 and P12.2: each choice; what the first one binds decides what the second one takes
	tells(t,
		follows{"A: p(X, Y) :- q(X), r(Y).", "a", "a", "a q 1; a q 2; a r 3; a r 4", "a p 1 3; a p 1 4; a p 2 3; a p 2 4"},
		follows{"A: p(X, Y) :- q(X), q(Y).", "a", "a", "a q 1; a q 2", "a p 1 1; a p 1 2; a p 2 1; a p 2 2"}, // one fact for several literals
		follows{"A: p(X, Y) :- q(X), q(Y), q(Y), q(X).", "a", "a", "a q 1; a q 2", "a p 1 1; a p 1 2; a p 2 1; a p 2 2"},
		follows{"A: p(X) :- q(X), r(X).", "a", "a", "a q 1; a q 2; a r 2; a r 3", "a p 2"},
		follows{"A: p(X) :- q(X), r(X).", "a", "a", "a q 1; a q 2; a r 3; a r 4", ""},
		follows{"A: p(X) :- q(X), r(X).", "a", "a", "a q 1; a q 2", ""},
		follows{"A: p(X) :- q(X), r(X).", "a", "a", "a r 1; a r 2", ""},
		follows{"A: p(X, Z) :- e(X, Y), e(Y, Z).", "a", "a", "a e 1 2; a e 2 3; a e 3 1; a e 3 3", "a p 1 3; a p 2 1; a p 2 3; a p 3 1; a p 3 2; a p 3 3"},
		follows{"A: p(X, W) :- e(X, Y), e(Y, Z), e(Z, W).", "a", "a", "a e 1 2; a e 2 3; a e 3 4; a e 9 9", "a p 1 4; a p 9 9"},
		follows{"A: p(X) :- e(X, Y), e(Y, Z), e(Z, X).", "a", "a", "a e 1 2; a e 2 3; a e 3 1; a e 3 4; a e 4 3", "a p 1; a p 2; a p 3"},
		follows{"A: p() :- e(X, Y), e(Y, Z), e(Z, X).", "a", "a", "a e 1 2; a e 2 3; a e 3 4", ""},
		follows{"A: p() :- e(X, Y), e(Y, Z), e(Z, X).", "a", "a", "a e 1 2; a e 2 3; a e 3 1; a e 3 4", "a p"},
		follows{"A: p(X) :- q(X), r(), s().", "a", "a", "a q 1; a q 2; a r; a s", "a p 1; a p 2"},
		follows{"A: p(X) :- q(X), r(), s().", "a", "a", "a q 1; a q 2; a r", ""},
		follows{"A: p(X) :- r(Y), q(X), s(Y).", "a", "a", "a q 1; a q 2; a r 5; a r 6; a s 6", "a p 1; a p 2"},
		follows{"A: p(X) :- r(Y), q(X), s(Y).", "a", "a", "a q 1; a q 2; a r 5; a r 6; a s 7", ""},
		follows{"A: ok(X) :- B says q(X), trusts(B).", "a", "a", "a.b q 1; a.c q 2; a.d q 3; a trusts b; a trusts d; a.c trusts c", "a ok 1; a ok 3"},
		follows{"A: ok(X) :- trusts(B), B says q(X).", "a", "a", "a.b q 1; a.c q 2; a.d q 3; a trusts b; a trusts d; a.c trusts c", "a ok 1; a ok 3"},
		follows{"A: p(X) :- q(B), r(X) at B.", "a", "a", "a q b; a q c; a q 7; b r 1; c r 2; d r 3; a r 4; b.a r 5", "a p 1; a p 2"},
		follows{"A: p(X) to B :- q(B), C says r(X, C) at B.", "a", "a b", "a q b; a q c; b.d r 1 d; b r 2 d; b r 3 b; c r 4 c", "b.a p 1; b.a p 3"},
		follows{"A: p(X, Y) :- q(X) at B, q(Y) at B.", "a", "a", "b q 1; b q 2; c q 3", "a p 1 1; a p 1 2; a p 2 1; a p 2 2; a p 3 3"},
		follows{"A: p(B) :- q(A) at B, q(B).", "a b", "a b", "a q b; b q a; a q c; c q b", "a p b; b p a"},
		follows{"A: p(X) :- q(X), q(1), q(2).", "a", "a", "a q 1; a q 2; a q 3", "a p 1; a p 2; a p 3"},
		follows{"A: p(X) :- q(X), q(1), q(2).", "a", "a", "a q 1; a q 3", ""},
		follows{`A: p(X) :- q(X), r(X).`, "a", "a", "a q 1; a r 01", "a p 1"},
		follows{`A: p(X) :- q(X, 1), q("1", X).`, "a", "a", "a q x 1", ""},
	)
}

func TestValuesThatLookAlike(t *testing.T) { // P12.1: what is let go and what is left must not run into each other
	w := world("a", "a")
	l := program(t, "A: p(X, Y) :- e(X, V), f(V, Y).")
	var m, want []api.Fact
	consts := []api.Const{{}, num(0), num(1), num(11), text("1"), text("11"), text("1 1"), text(" 1"), text("1 "), text("true"), text("0 1 1"), text("1 1 1"), text("false 0 1 1"), text("1 false 0 1"), text("1 false 0 1 1"), {N: 1}, {N: 1, S: "1"}, {Num: true, S: "1"}, {Num: true, N: 1, S: "1"}, {N: 11}, text("\x00"), text("\x00\x00")}
	for _, c := range consts {
		for _, v := range []api.Const{text("v"), num(0)} {
			m = append(m, fact.Own("a", "e", c, v), fact.Own("a", "f", v, c))
		}
		for _, d := range consts {
			want = append(want, fact.Own("a", "p", c, d))
		}
	}
	if got := holdOnce(t, w, l, m); !sameFacts(got, fact.Sorted(want...)) || len(got) != len(consts)*len(consts) {
		t.Error(len(got), len(want))
	}
}

func TestSeveralRules(t *testing.T) { // P12.2: all rules at once, from the facts that are handed in alone
	tells(t,
		follows{"A: p(X) :- q(X). A: r(X) :- p(X). b: q(X) to a :- q(X).", "a b", "a b", "a q 1; b q 2", "a p 1; a.b q 2; b p 2"},
		follows{"A: p(X) :- q(X). A: r(X) :- p(X).", "a b", "a b", "a p 1; b p 2", "a r 1; b r 2"},
		follows{"A: p(X) :- q(X). A: p(X) :- r(X).", "a", "a", "a q 1; a q 2; a r 2; a r 3", "a p 1; a p 2; a p 3"},
		follows{"A: q(X) :- q(X).", "a", "a", "a q 1; b q 2", "a q 1"}, // what is known is told too, if it follows
		follows{"a: p() :- q(). b: p() to a :- q(). c: p() :- q().", "a b c", "a b c", "a q; b q", "a p; a.b p"},
		follows{"", "a", "a", "a q 1", ""},
		follows{"", "", "", "", ""},
		follows{"A: p(X) :- q(X).", "", "", "a q 1", ""},
	)
}

// bare is a rule without its body.
func bare(t *testing.T, s string) api.Rule {
	t.Helper()
	r := program(t, s+" :- none().")[0]
	r.Body = nil
	return r
}

func TestWithoutLiterals(t *testing.T) { // P12.1: the Head alone, whatever is known
	w := world("a b", "a b")
	for s, want := range map[string]string{
		"A: p()":          "a p; b p",
		"A: p(A, 1, x)":   "a p a 1 x; b p b 1 x",
		"a: p(1)":         "a p 1",
		"a: p(1) to b":    "b.a p 1",
		"A: p(A) to b":    "b.a p a; b p b",
		"A: p(A) to A":    "a p a; b p b",
		"A: p() to c":     "",
		"c: p()":          "",
		"c: p() to a":     "",
		"5: p() to a":     "",
		"a: p() to 5":     "",
		"A: p(X)":         "",
		"A: p() to X":     "",
		"A: p(A, X) to b": "",
	} {
		l := []api.Rule{bare(t, s)}
		for _, m := range [][]api.Fact{nil, {}, facts("a q 1; b p 7; c.a none")} {
			if got := holdOnce(t, w, l, m); !sameFacts(got, facts(want)) {
				t.Errorf("%s: %+v", s, got)
			}
			if got, e := holdLeast(t, w, l, m); e != api.OK || !sameFacts(got, fact.Sorted(append(facts(want), m...)...)) {
				t.Errorf("%s: %+v, %d", s, got, e)
			}
			if model.Closed(w, l, m) != (want == "") || !model.Closed(w, l, facts(want)) {
				t.Errorf("%s: Closed", s)
			}
			l[0].Body = []api.Literal{}
		}
	}
}

func TestUnboundHead(t *testing.T) { // P12.1: a variable that nothing binds
	w := world("a b", "a b X")
	for _, s := range []string{"A: p(X) :- q(Y).", "A: p(Y, X) :- q(Y).", "A: p(Y) to X :- q(Y).", "A: p(X) to X :- q(Y), q(Z).", "a: p(A) :- q(Y).", "a: p() to A :- q(Y)."} {
		l, m := program(t, s), facts("a q 1; a q b; b q b")
		if got := holdOnce(t, w, l, m); len(got) != 0 {
			t.Errorf("%s: %+v", s, got)
		}
		if got, e := holdLeast(t, w, l, m); e != api.OK || !sameFacts(got, m) || !model.Closed(w, l, m) {
			t.Errorf("%s: %+v, %d", s, got, e)
		}
	}
}

func TestOrderAndTwice(t *testing.T) { // P12.2: facts, rules, homes and names in another order, and more than once
	w := world("a b c", "a b c")
	l := program(t, "A: p(X) to B :- q(X, B). A: r(X, B) :- B says p(X). b: q(X, c) :- c says p(X). A: s() :- r(X, B), q(X, B).")
	m := facts("a q 1 b; a q 2 c; b q 1 a; c q 3 b; b.c p 4; c q 4 c")
	want, least := holdOnce(t, w, l, m), model.Closed(w, l, m)
	whole, _ := holdLeast(t, w, l, m)
	if len(want) < 5 || len(whole) < len(want)+5 || least {
		t.Fatal(want, whole, least)
	}
	die := rand.New(rand.NewSource(1))
	for range 200 {
		v := model.World{Homes: mixed(die, w.Homes), Names: mixed(die, w.Names)}
		rules, known := mixed(die, l), mixed(die, m)
		if got := model.Once(v, rules, known); !sameFacts(got, want) {
			t.Fatal(v, rules, known, got)
		}
		if got, e := model.Least(v, rules, known); !sameFacts(got, whole) || e != api.OK {
			t.Fatal(v, rules, known, got)
		}
		if model.Closed(v, rules, known) || !model.Closed(v, rules, mixed(die, whole)) {
			t.Fatal(v, rules, known)
		}
	}
}

// mixed is a list in another order, with some of it more than once.
func mixed[T any](die *rand.Rand, l []T) []T {
	m := slices.Clone(l)
	for range die.Intn(len(l) + 1) {
		m = append(m, l[die.Intn(len(l))])
	}
	die.Shuffle(len(m), func(i, j int) { m[i], m[j] = m[j], m[i] })
	return m
}

func TestEmpty(t *testing.T) { // P12.2 and P12.3: no rules, no facts, no homes, no names, as nil and as empty lists
	l, m := program(t, "A: p(X) :- q(X)."), facts("a q 2; a q 1")
	for _, none := range []bool{false, true} {
		rules, known, names := []api.Rule(nil), []api.Fact(nil), []string(nil)
		if none {
			rules, known, names = []api.Rule{}, []api.Fact{}, []string{}
		}
		ab := []string{"a", "b"}
		for _, one := range []struct {
			w model.World
			l []api.Rule
			m []api.Fact
		}{
			{model.World{Homes: ab, Names: ab}, rules, m}, {model.World{Homes: ab, Names: ab}, l, known}, {model.World{Homes: names, Names: ab}, l, m},
			{model.World{Homes: ab, Names: names}, l, m}, {model.World{Homes: names, Names: names}, rules, known}, {model.World{}, l, m},
		} {
			if got := model.Once(one.w, one.l, one.m); len(got) != 0 {
				t.Errorf("%+v: %+v", one, got)
			}
			if got, e := model.Least(one.w, one.l, one.m); e != api.OK || !sameFacts(got, fact.Sorted(one.m...)) {
				t.Errorf("%+v: %+v, %d", one, got, e)
			}
			if !model.Closed(one.w, one.l, one.m) {
				t.Errorf("%+v: not closed", one)
			}
		}
	}
}

func holdsLeast(t *testing.T, w model.World, rules, base, want string) {
	t.Helper()
	l, b := program(t, rules), facts(base)
	got, e := holdLeast(t, w, l, b)
	if e != api.OK || !sameFacts(got, facts(want)) {
		t.Errorf("%s, %s: %+v, %d", rules, base, got, e)
	}
	if !model.Closed(w, l, got) {
		t.Errorf("%s, %s: not closed", rules, base)
	}
}

func TestLeast(t *testing.T) { // P12.2: in one step, in several, by rules that go round
	w := world("a b", "a b")
	steps := "A: t(X, Y) :- e(X, Y). A: t(X, Z) :- t(X, Y), e(Y, Z)."
	for _, one := range []struct{ rules, base, want string }{
		{"A: p(X) :- q(X).", "a q 1; b q 2", "a p 1; a q 1; b p 2; b q 2"},
		{"A: p(X) :- q(X).", "a r 1", "a r 1"},
		{"A: s(X) :- r(X). A: r(X) :- p(X). A: p(X) :- q(X).", "a q 1", "a p 1; a q 1; a r 1; a s 1"},
		{"A: p(X) to b :- q(X). b: r(X) to a :- A says p(X). a: s(X) :- b says r(X), q(X).", "a q 1; b q 2", "a q 1; a s 1; a.b r 1; a.b r 2; b.a p 1; b p 2; b q 2"},
		{steps, "a e 1 2; a e 2 3; b e 3 4", "a e 1 2; a e 2 3; a t 1 2; a t 1 3; a t 2 3; b e 3 4; b t 3 4"},
		{steps, "a e 1 2; a e 2 1", "a e 1 2; a e 2 1; a t 1 1; a t 1 2; a t 2 1; a t 2 2"},
		{"A: p(X) :- q(X). A: q(X) :- p(X).", "", ""},
		{"A: p(X) :- q(X). A: q(X) :- p(X).", "a p 1; b q 2", "a p 1; a q 1; b p 2; b q 2"},
		{"A: p() to b :- q(). b: q() to a :- a says p().", "a q", "a q; a.b q; b.a p"},
		{"A: p(X) :- p(X), q(X).", "a q 1", "a q 1"},
		{"A: q(Y, X) :- q(X, Y).", "a q 1 2; b q 3 3", "a q 1 2; a q 2 1; b q 3 3"},
		// not sorted, and facts twice
		{"A: p(X) :- q(X).", "b q 2; a q 1; b q 2; a q 1; a p 3", "a p 1; a p 3; a q 1; b p 2; b q 2"},
		{"", "b q 2; a q 1; b q 2; a.b q 1; a q 1", "a q 1; a.b q 1; b q 2"},
		// at and by one who is none of w.Names
		{"A: p(X) :- q(X). A: r(X) :- q(X) at c.", "c q 1; a q 2; c.a q 3; a.c q 4", "a p 2; a q 2; a r 1; a.c q 4; b r 1; c.a q 3; c q 1"},
		{"A: p(X) to c :- q(X).", "a q 1; c p 2", "a q 1; c p 2"},
	} {
		holdsLeast(t, w, one.rules, one.base, one.want)
	}
}

// many are facts pred(from), pred(from + 1) and so on at a.
func many(pred string, from, n int) (l []api.Fact) {
	for i := range n {
		l = append(l, fact.Own("a", pred, num(from+i)))
	}
	return l
}

// full says that there is a model of that many facts, or (0) that there are too many.
func full(t *testing.T, rules string, base []api.Fact, want int) {
	t.Helper()
	w := world("a b", "a b")
	got, e := model.Least(w, program(t, rules), base)
	if want == 0 && (e != api.ErrFull || len(got) != 0) || want != 0 && (e != api.OK || len(got) != want || !inOrder(got) || !within(base, got)) {
		t.Errorf("%s, %d: %d, %d; want %d", rules, len(base), len(got), e, want)
	}
}

func TestMaxModel(t *testing.T) { // P12.2: 400 are told whole, 401 are ErrFull and nothing
	for _, rules := range []string{"", "A: p(X) :- q(X).", "A: r(X) :- r(X).", "b: p(X) :- r(X)."} {
		full(t, rules, many("r", 0, 399), 399)
		full(t, rules, many("r", 0, 400), 400)
		full(t, rules, slices.Concat(many("r", 0, 400), many("r", 0, 400)), 400)
		full(t, rules, many("r", 0, 401), 0)
		full(t, rules, many("r", 0, 5000), 0)
	}
	full(t, "A: p(X) :- r(X).", many("r", 0, 199), 398)
	full(t, "A: p(X) :- r(X).", many("r", 0, 200), 400)
	full(t, "A: p(X) :- r(X).", many("r", 0, 201), 0)
	full(t, "A: p() :- r(1).", many("r", 0, 399), 400)
	full(t, "A: p() :- r(1).", many("r", 0, 400), 0)
	full(t, "A: p() :- r(1). A: q() :- p().", many("r", 0, 398), 400)
	full(t, "A: p() :- r(1). A: q() :- p().", many("r", 0, 399), 0)
	full(t, "A: p() to b :- r(1).", many("r", 0, 400), 0)
	full(t, "A: p() to c :- r(1).", many("r", 0, 400), 400)
	full(t, "A: p(X, Y) :- q(X), q(Y).", slices.Concat(many("q", 0, 19), many("r", 0, 20)), 400)
	full(t, "A: p(X, Y) :- q(X), q(Y).", slices.Concat(many("q", 0, 19), many("r", 0, 21)), 0)
	full(t, "A: r(X) :- q(X).", slices.Concat(many("q", 0, 200), many("r", 0, 200)), 400) // all that follows is known
	full(t, "A: r(X) :- q(X).", slices.Concat(many("q", 0, 200), many("r", 1, 200)), 0)
	for _, more := range []int{0, 1} { // step by step, so that the last step is the one too many
		base := many("p", 0, 1)
		for i := range 199 {
			base = append(base, fact.Own("a", "s", num(i), num(i+1)))
		}
		full(t, "A: p(Y) :- p(X), s(X, Y).", slices.Concat(base, many("r", 0, 1+more)), 400-400*more)
	}
	w := world("a", "a")
	if got, e := model.Least(model.World{}, nil, many("r", 0, 401)); e != api.ErrFull || len(got) != 0 {
		t.Error("without homes, names and rules:", len(got), e)
	}
	if got := model.Once(w, program(t, "A: p(X, Y) :- q(X), q(Y)."), many("q", 0, 100)); len(got) != 10000 || !inOrder(got) {
		t.Error("Once has no such limit:", len(got))
	}
	if l := program(t, "A: r(X) :- r(X)."); !model.Closed(w, l, many("r", 0, 1000)) || len(model.Once(w, l, many("r", 0, 1000))) != 1000 {
		t.Error("Closed has no such limit")
	}
}

func TestClosed(t *testing.T) { // P12.3: written out
	w := world("a b", "a b")
	steps := "A: t(X, Y) :- e(X, Y). A: t(X, Z) :- t(X, Y), e(Y, Z)."
	for _, one := range []struct {
		rules, m string
		want     bool
	}{
		{"", "", true},
		{"", "b q 1; a q 1", true},
		{"A: p(X) :- q(X).", "", true},
		{"A: p(X) :- q(X).", "a q 1", false},
		{"A: p(X) :- q(X).", "a q 1; a p 1", true},
		{"A: p(X) :- q(X).", "a p 1", true},
		{"A: p(X) :- q(X).", "a q 1; a p 2", false},
		{"A: p(X) :- q(X).", "a q 1; a p 1; b q 1", false},
		{"A: p(X) :- q(X).", "a q 1; b.a p 1; a.b p 1; b p 1; a p 1 1; a p", false},
		{"A: p(X) :- q(X).", "c q 1", true},
		{"A: p(X) to c :- q(X).", "a q 1", true},
		{"A: p(X) to b :- q(X).", "b.a p 1; a q 1", true},
		{"A: p(X) :- p(X).", "a p 1; b p 2", true},
		{"A: p(X) :- q(X). A: p(X) :- r(X).", "a r 2; a p 1; a q 1", false},
		{"A: p(X) :- q(X). A: p(X) :- r(X).", "a r 2; a p 1; a q 1; a p 2", true},
		{steps, "a e 1 2; a t 1 2", true},
		{steps, "a t 1 1; a t 2 1; a t 2 2; a e 1 2; a e 2 1; a t 1 2", true},
		{steps, "a t 1 1; a t 2 1; a t 2 2; a e 1 2; a e 2 1", false},
		{steps, "a t 2 1; a t 2 2; a e 1 2; a e 2 1; a t 1 2", false},
		{steps, "a t 5 6; a e 6 7", false},
	} {
		l, m := program(t, one.rules), facts(one.m)
		if got := holdClosed(t, w, l, m); got != one.want {
			t.Errorf("%+v: %t", one, got)
		}
		slices.Reverse(m)
		if got := holdClosed(t, w, l, append(m, m...)); got != one.want {
			t.Errorf("%+v, reversed and twice: %t", one, got)
		}
	}
}

func TestOneTakenAway(t *testing.T) { // P12.3: without one of what follows a model is not closed; without one that nothing follows from, and that does not follow, it is
	w := world("a b", "a b")
	l := program(t, "A: t(X, Y) :- e(X, Y). A: t(X, Z) :- t(X, Y), e(Y, Z). A: u(X) to b :- t(X, X). b: v(A, X) :- A says u(X).")
	base := facts("a e 1 2; a e 2 3; a e 3 1; b e 7 7; a lone 5; c e 8 8; b e 8 9")
	m, e := holdLeast(t, w, l, base)
	if e != api.OK || len(m) != 7+9+2+4+4 {
		t.Fatal(len(m), e)
	}
	for i, f := range m {
		less := slices.Delete(slices.Clone(m), i, i+1)
		if holdClosed(t, w, l, less) == (f.Pred != "e" && f.Pred != "lone") {
			t.Errorf("without %+v: %t", f, !(f.Pred != "e" && f.Pred != "lone"))
		}
		slices.Reverse(less)
		holdClosed(t, w, l, less)
	}
}

func TestManyWorlds(t *testing.T) { // P12.1 to P12.3 by their words, P12.4
	count := map[string]int{}
	die := rand.New(rand.NewSource(12))
	for i := range 15000 {
		k := maker{die, 4 * (i % 4)}
		w, l, m := k.world(), k.rules(), k.facts(16)
		once := holdOnce(t, w, l, m)
		closed := holdClosed(t, w, l, m)
		least, e := holdLeast(t, w, l, m)
		if len(once) > 3 {
			count["much at once"]++
		}
		if closed {
			count["closed"]++
		}
		if e == api.ErrFull {
			count["full"]++
			continue
		}
		if len(least) > len(fact.Sorted(append(once, m...)...)) {
			count["several steps"]++
		}
		laws(t, k, w, l, m, least)
	}
	for _, s := range []string{"much at once", "closed", "several steps"} {
		if count[s] < 400 {
			t.Error("only so many:", count)
		}
	}
}

// laws holds P12.4 of a base and its least model, with others that have more.
func laws(t *testing.T, k maker, w model.World, l []api.Rule, base, least []api.Fact) {
	t.Helper()
	if !model.Closed(w, l, least) || !within(base, least) || !within(model.Once(w, l, least), least) {
		t.Fatalf("%+v, %+v, %+v: %+v", w, l, base, least)
	}
	if again, e := model.Least(w, l, least); e != api.OK || !sameFacts(again, least) {
		t.Fatalf("%+v, %+v, %+v: %+v", w, l, least, again)
	}
	more := append(k.facts(3), base...)
	if greater, e := model.Least(w, l, more); e == api.OK && (!within(least, greater) || !model.Closed(w, l, greater)) {
		t.Fatalf("%+v, %+v, %+v: %+v", w, l, more, greater)
	}
	if !within(model.Once(w, l, base), model.Once(w, l, more)) {
		t.Fatalf("%+v, %+v, %+v: less at once", w, l, more)
	}
	for range 3 { // what lies between the base and its least model has the same one, and is not closed
		between := slices.DeleteFunc(slices.Clone(least), func(f api.Fact) bool { return !fact.Has(base, f) && k.Intn(2) > 0 })
		if got, e := model.Least(w, l, between); e != api.OK || !sameFacts(got, least) || model.Closed(w, l, between) != (len(between) == len(least)) {
			t.Fatalf("%+v, %+v, %+v: %+v", w, l, between, got)
		}
	}
}

// subsets calls with each list of some of l.
func subsets(l []api.Fact, do func([]api.Fact)) {
	for bits := range 1 << len(l) {
		var m []api.Fact
		for i, f := range l {
			if bits>>i&1 > 0 {
				m = append(m, f)
			}
		}
		do(m)
	}
}

// intersected holds that the least model is what all closed lists with the base have in common.
func intersected(t *testing.T, w model.World, l []api.Rule, all, base []api.Fact) int {
	t.Helper()
	least, e := model.Least(w, l, base)
	if e != api.OK || !within(least, all) {
		t.Fatalf("%+v, %+v, %+v: %+v, %d", w, l, base, least, e)
	}
	common := slices.Clone(all)
	subsets(all, func(m []api.Fact) {
		if within(base, m) && model.Closed(w, l, m) {
			common = slices.DeleteFunc(common, func(f api.Fact) bool { return !fact.Has(m, f) })
		}
	})
	if !sameFacts(fact.Sorted(common...), least) {
		t.Fatalf("%+v, %+v, %+v: %+v; all closed ones have %+v", w, l, base, least, common)
	}
	return len(least) - len(fact.Sorted(base...))
}

func TestWithinEachClosedList(t *testing.T) { // P12.4: each closed list with the base has all of the least model
	follow := 0
	die := rand.New(rand.NewSource(4))
	places := facts("a p; a q; a.b p; a.b q; b p; b q; b.a p; b.a q")
	for range 800 { // who says what where
		k := maker{die, 0}
		var l []api.Rule
		for range 1 + k.Intn(3) {
			r := api.Rule{Home: k.place(), Pred: pick(k, "p", "q"), To: k.perhaps()}
			for range k.Intn(4) {
				r.Body = append(r.Body, api.Literal{By: k.perhaps(), Pred: pick(k, "p", "q"), At: k.perhaps()})
			}
			l = append(l, r)
		}
		k.Shuffle(len(places), func(i, j int) { places[i], places[j] = places[j], places[i] })
		follow += intersected(t, world("a b", "a b"), l, places, places[:1+k.Intn(4)])
	}
	values := facts("a e 1 1; a e 1 2; a e 2 1; a e 2 2; a p 1; a p 2; a q 1; a q 2")
	for range 800 { // arguments
		k := maker{die, 0}
		var l []api.Rule
		for range 1 + k.Intn(3) {
			r := api.Rule{Home: variable("A"), Pred: pick(k, "p", "q", "e")}
			r.Args = k.values(r.Pred)
			for range 1 + k.Intn(3) {
				x := api.Literal{Pred: pick(k, "p", "q", "e")}
				x.Args = k.values(x.Pred)
				r.Body = append(r.Body, x)
			}
			l = append(l, r)
		}
		k.Shuffle(len(values), func(i, j int) { values[i], values[j] = values[j], values[i] })
		follow += intersected(t, world("a", "a"), l, values, values[:1+k.Intn(5)])
	}
	if follow < 300 {
		t.Error("only so much follows:", follow)
	}
}

// values are arguments of variables, 1 and 2, as many as a predicate has.
func (m maker) values(pred string) (l []api.Term) {
	for range 1 + strings.Count(pred, "e") {
		l = append(l, pick(m, variable("X"), variable("Y"), variable("Z"), number(1), number(2), variable("X")))
	}
	return l
}

func TestOnceByDerivations(t *testing.T) { // P12.1, by P11.4: a head follows at once just if it follows by a rule from facts of m, one of w.Homes says it, and it stands at one of w.Names
	said, count := 0, 0
	die := rand.New(rand.NewSource(5))
	for i := range 1500 {
		k := maker{die, 5 * (i % 3)}
		w, l, m := k.world(), k.rules(), k.facts(5)
		got := model.Once(w, l, m)
		heads := append(k.facts(20), got...)
		for _, f := range m { // what may follow: with other predicates, and at other places
			heads = append(heads, api.Fact{At: "a", By: "b", Pred: "p", Args: f.Args}, api.Fact{At: f.At, By: f.At, Pred: "q", Args: f.Args})
		}
		for _, f := range heads {
			want := slices.Contains(w.Homes, f.By) && slices.Contains(w.Names, f.At) && slices.ContainsFunc(l, func(r api.Rule) bool { return derived(r, f, m, nil) })
			if fact.Has(got, f) != want {
				t.Fatalf("%+v, %+v, %+v: %+v: %t", w, l, m, f, want)
			}
			count++
			if want {
				said++
			}
		}
	}
	if said < 1000 || count < 2*said {
		t.Error("only so many:", said, count)
	}
}

// derived tells whether a head follows by a rule from facts of m, those of a body's beginning being chosen.
func derived(r api.Rule, head api.Fact, m, body []api.Fact) bool {
	if len(body) == len(r.Body) {
		return match.Follows(r, api.Deriv{Head: head, Body: body})
	}
	return slices.ContainsFunc(m, func(f api.Fact) bool { return derived(r, head, m, append(slices.Clone(body), f)) })
}

func TestOddTerms(t *testing.T) { // P12.1 of each kind of term wherever one stands
	some := slices.Concat(oddTerms(), terms(variable("A"), variable("X"), variable("Y"), name("a"), name("b"), number(1)))
	m := []api.Fact{{}, {Pred: "q"}, {At: "a", By: "a", Pred: "q", Args: []api.Const{{}}}, {At: "b", By: "a", Pred: "q", Args: []api.Const{text("a")}}, {At: "a", By: "a", Pred: "q", Args: []api.Const{text("b")}}, {At: "a", By: "b", Pred: "q", Args: []api.Const{{N: 1, S: "a"}}}, {At: "", By: "", Pred: "q", Args: []api.Const{num(1)}}, {At: "a", By: "a", Pred: "q", Args: []api.Const{num(1)}}}
	w := model.World{Homes: []string{"a", "", "b", "1"}, Names: []string{"", "a", "b", "1"}}
	follow := 0
	for _, x := range some {
		for _, y := range some {
			for _, l := range [][]api.Rule{
				{{Home: x, Args: terms(y)}},
				{{Home: x, Pred: "p", To: y}},
				{{Home: x, Pred: "p", Args: terms(y), Body: []api.Literal{{Pred: "q", Args: terms(y)}}}},
				{{Home: variable("A"), Pred: "p", Args: terms(x, y), To: y, Body: []api.Literal{{Pred: "q", Args: terms(x)}, {Pred: "q", Args: terms(y)}}}},
				{{Home: variable("A"), Pred: "q", Args: terms(variable("Z")), To: x, Body: []api.Literal{{By: x, Pred: "q", Args: terms(variable("Z")), At: y}}}},
				{{Home: variable("A"), Pred: "p", Body: []api.Literal{{By: y, Pred: "q", At: x}, {At: y}}}},
			} {
				follow += len(holdOnce(t, w, l, m))
				holdClosed(t, w, l, m)
				holdLeast(t, w, l, m)
			}
		}
	}
	if follow < 500 {
		t.Error("only so much follows:", follow)
	}
}

func TestEmptyNames(t *testing.T) { // P12.1: a home without a letter is a text too
	l := []api.Rule{{Home: variable("A"), Pred: "p", Args: terms(variable("X")), Body: []api.Literal{{Pred: "q", Args: terms(variable("X"))}}}}
	m := []api.Fact{{Pred: "q", Args: []api.Const{num(1)}}}
	want := []api.Fact{{Pred: "p", Args: []api.Const{num(1)}}}
	for _, one := range []struct {
		w  model.World
		is bool
	}{
		{model.World{Homes: []string{""}, Names: []string{""}}, true}, {model.World{Homes: []string{"a"}, Names: []string{""}}, false}, {model.World{Homes: []string{""}, Names: []string{"a"}}, false}, {model.World{}, false},
	} {
		if got := holdOnce(t, one.w, l, m); one.is != sameFacts(got, want) || one.is == (len(got) == 0) {
			t.Errorf("%+v: %+v", one, got)
		}
	}
}

func TestNoPanic(t *testing.T) { // R1, R5: whatever the fields hold
	for _, s := range []string{"", "a", "\x00", "\xff\xfe", "é", "~ask0.1", "says", strings.Repeat("x", 1<<14)} {
		for _, n := range []int{0, -1, math.MinInt, math.MaxInt} {
			for _, is := range []bool{false, true} {
				c := api.Const{Num: is, N: n, S: s}
				for _, x := range []api.Term{{}, variable(s), value(c), {Var: s, Val: c}} {
					l := []api.Rule{{}, {Home: x}, {Home: x, Pred: s, Args: terms(x, x), To: x, Body: []api.Literal{{}, {By: x, Pred: s, Args: terms(x, x), At: x}}}, {Home: variable("A"), Pred: s, Args: terms(x), Body: []api.Literal{{Pred: s, Args: terms(x)}, {By: x, Pred: s, Args: terms(variable("B"))}}}}
					m := []api.Fact{{}, {At: s, By: s, Pred: s}, {At: s, By: s, Pred: s, Args: []api.Const{c, c}}, {At: s, By: "b", Pred: s, Args: []api.Const{c}}, {At: s, By: s, Pred: s, Args: []api.Const{text(s)}}}
					for _, w := range []model.World{{}, {Homes: []string{s, "", "a"}, Names: []string{"b", s, ""}}} {
						holdOnce(t, w, l, m)
						holdClosed(t, w, l, m)
						holdLeast(t, w, l, m)
					}
				}
			}
		}
	}
}

func TestItEnds(t *testing.T) { // R1: with as many facts, literals and rules as there may be, and with far more
	w := world("a b", "a b")
	full(t, "A: q(X) :- q(X), q(Y), q(Z), q(W).", many("q", 0, 400), 400)
	full(t, "A: p() :- q(X), q(Y), q(Z), q(W).", many("q", 0, 399), 400)
	full(t, "A: p(X, Y, Z, W) :- q(X), q(Y), q(Z), q(W).", many("q", 0, 300), 0)
	full(t, "A: p(V) :- q(X), q(Y), q(Z), q(W).", many("q", 0, 400), 400)
	full(t, "A: p(X, Y, Z) :- q(X), q(Y), q(Z), never(X, Y, Z).", many("q", 0, 400), 400)
	var round, pairs []api.Fact
	for i := range 19 {
		for j := range 19 {
			round = append(round, fact.Own("a", "e", num(i), num(j)))
		}
	}
	for i := range 380 {
		pairs = append(pairs, fact.Own("a", "e", num(i%2), num(i)))
	}
	full(t, strings.Repeat("A: e(X, V) :- e(X, Y), e(Y, Z), e(Z, W), e(W, V). ", api.MaxRules), round, 361)
	full(t, "A: p(X, Y, Z, W) :- e(X, S), e(Y, T), e(Z, U), e(W, V).", pairs, 396)
	for _, n := range []int{100, 20000} {
		free := api.Rule{Home: variable("A"), Pred: "p", Args: terms(variable("X0"))}
		chain, same := free, free
		for i := range n {
			x, y := variable("X"+strconv.Itoa(i)), variable("X"+strconv.Itoa(i+1))
			free.Body = append(free.Body, api.Literal{Pred: "e", Args: terms(x, number(1))})
			chain.Body = append(chain.Body, api.Literal{Pred: "e", Args: terms(x, y)})
			same.Body = append(same.Body, api.Literal{Pred: "e", Args: terms(variable("X0"), variable("X0"))})
		}
		for _, r := range []api.Rule{free, chain, same} {
			if got := model.Once(w, []api.Rule{r}, facts("a e 0 0; a e 0 1; a e 1 0; a e 1 1; b e 1 2; b e 2 1; b e 2 2")); len(got) < 3 {
				t.Errorf("%d literals: %+v", n, got)
			}
		}
	}
}

// roomy is a list with spare room behind it, in which something stands.
func roomy[T any](l []T, spare T) []T {
	m := append(slices.Clone(l), spare, spare, spare)
	return m[:len(l)]
}

// roomyFacts are facts of which the list and each list of arguments has spare room.
func roomyFacts(l []api.Fact, spare string) []api.Fact {
	m := roomy(l, api.Fact{At: spare, Pred: spare})
	for i := range m {
		m[i].Args = roomy(m[i].Args, text(spare))
	}
	return m
}

func roomyRules(l []api.Rule, spare string) []api.Rule {
	m := roomy(l, api.Rule{Pred: spare})
	for i := range m {
		m[i].Args = roomy(m[i].Args, variable(spare))
		m[i].Body = roomy(m[i].Body, api.Literal{Pred: spare})
		for j := range m[i].Body {
			m[i].Body[j].Args = roomy(m[i].Body[j].Args, variable(spare))
		}
	}
	return m
}

// whole is a list with all its spare room.
func whole[T any](l []T) []T { return l[:cap(l)] }

func sameTerms(a, b []api.Term) bool { return slices.Equal(whole(a), whole(b)) }

func sameRules(a, b []api.Rule) bool {
	return slices.EqualFunc(whole(a), whole(b), func(r, s api.Rule) bool {
		return r.Home == s.Home && r.Pred == s.Pred && sameTerms(r.Args, s.Args) && r.To == s.To && slices.EqualFunc(whole(r.Body), whole(s.Body), func(x, y api.Literal) bool {
			return x.By == y.By && x.Pred == y.Pred && sameTerms(x.Args, y.Args) && x.At == y.At
		})
	})
}

func sameRoom(a, b []api.Fact) bool {
	return slices.EqualFunc(whole(a), whole(b), func(f, g api.Fact) bool {
		return f.At == g.At && f.By == g.By && f.Pred == g.Pred && slices.Equal(whole(f.Args), whole(g.Args))
	})
}

func TestHandedInStays(t *testing.T) { // R3: spare room too; R4: the same again
	die := rand.New(rand.NewSource(3))
	for range 1000 {
		k := maker{die, 3}
		w, l, m := k.world(), k.rules(), k.facts(12)
		w, l, m = model.World{Homes: roomy(w.Homes, "spare"), Names: roomy(w.Names, "spare")}, roomyRules(l, "spare"), roomyFacts(m, "spare")
		v, rules, known := model.World{Homes: roomy(w.Homes, "spare"), Names: roomy(w.Names, "spare")}, roomyRules(l, "spare"), roomyFacts(m, "spare")
		once := model.Once(w, l, m)
		least, e := model.Least(w, l, m)
		closed := model.Closed(w, l, m)
		if !slices.Equal(whole(w.Homes), whole(v.Homes)) || !slices.Equal(whole(w.Names), whole(v.Names)) || !sameRules(l, rules) || !sameRoom(m, known) {
			t.Fatalf("%+v, %+v, %+v: now %+v, %+v, %+v", v, rules, known, w, l, m)
		}
		spoil(once)
		spoil(least)
		if !slices.Equal(whole(w.Homes), whole(v.Homes)) || !sameRules(l, rules) || !sameRoom(m, known) {
			t.Fatalf("%+v, %+v, %+v: what was told shares memory with them", v, rules, known)
		}
		if again, f := holdLeast(t, w, l, m); f != e || len(again) != len(least) || closed != holdClosed(t, w, l, m) || len(holdOnce(t, w, l, m)) != len(once) {
			t.Fatalf("%+v, %+v, %+v: another answer", w, l, m)
		}
	}
}

// spoil overwrites all of a list, with its spare room.
func spoil(l []api.Fact) {
	for i, f := range whole(l) {
		for j := range whole(f.Args) {
			whole(f.Args)[j] = text("spoilt")
		}
		l[:cap(l)][i] = api.Fact{At: "spoilt"}
	}
}

func TestAnswerIsTheCallersOwn(t *testing.T) { // R3: no two lists of an answer share memory, nor do two answers
	w := world("a b", "a b")
	l := program(t, "A: p(X, 1) to B :- q(X, B). A: p(X, 1) :- q(X, B). A: q(X, b) :- q(X, a).")
	base := roomyFacts(facts("a q 1 a; a q 2 b; b q 3 a; c q 4 a"), "spare")
	tell := map[string]func() []api.Fact{
		"Once":  func() []api.Fact { return model.Once(w, l, base) },
		"Least": func() []api.Fact { m, _ := model.Least(w, l, base); return m },
	}
	for s, do := range tell {
		want, got := do(), do()
		if len(want) < 5 || !sameFacts(want, got) {
			t.Fatal(s, want, got)
		}
		for i := range got {
			for j := range got {
				if i == j {
					continue
				}
				args := got[i].Args
				_ = append(args, num(77), num(78), num(79)) // into the room behind it, if there is any
				for k := range args {
					args[k] = num(99)
				}
				if !sameFact(got[j], want[j]) {
					t.Fatalf("%s: %+v: another one changed: %+v", s, want, got)
				}
				copy(args, want[i].Args)
			}
		}
		spoil(got)
		if again := do(); !sameFacts(again, want) {
			t.Fatalf("%s: %+v, then %+v", s, want, again)
		}
	}
}

func FuzzModel(f *testing.F) {
	for i := range 8 {
		f.Add(int64(i), byte(i*5), byte(i))
	}
	f.Fuzz(func(t *testing.T, seed int64, odd, most byte) {
		k := maker{rand.New(rand.NewSource(seed)), int(odd) % 50}
		w, l, m := k.world(), k.rules(), k.facts(int(most)%12)
		holdOnce(t, w, l, m)
		holdClosed(t, w, l, m)
		if least, e := holdLeast(t, w, l, m); e == api.OK {
			laws(t, k, w, l, m, least)
		}
	})
}
