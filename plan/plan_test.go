package plan_test

import (
	"math"
	"math/rand"
	"slices"
	"strconv"
	"strings"
	"testing"

	"avowal/api"
	"avowal/fact"
	"avowal/match"
	"avowal/model"
	"avowal/plan"
)

func TestExample(t *testing.T) { // the chapter's
	r := rule(t, "A: p() :- q(X), r(X, Y), s(1, Y).")
	if got := plan.Order(r, -1); !slices.Equal(got, []int{2, 1, 0}) {
		t.Error(got)
	}
	if got := plan.Order(r, 0); !slices.Equal(got, []int{0, 1, 2}) {
		t.Error(got)
	}
}

// sought is a rule, a first number, and the order, with blanks between.
type sought struct {
	rule  string
	first int
	want  string
}

func orders(t *testing.T, l ...sought) {
	t.Helper()
	for _, one := range l {
		var want []int
		for _, s := range strings.Fields(one.want) {
			n, _ := strconv.Atoi(s)
			want = append(want, n)
		}
		r := rule(t, one.rule)
		if got := plan.Order(r, one.first); !slices.Equal(got, want) {
			t.Errorf("%+v: %d", one, got)
		}
		for first := -2; first < len(r.Body)+2; first++ {
			holdOrder(t, r, first)
		}
	}
}

func TestFirst(t *testing.T) { // P14.1: below 0, 0, the last number, one more, far beyond; of several with the same count the least number
	three, four := "A: p() :- q(X), r(X, Y), s(1, Y).", "A: p() :- q(X), q(Y), q(Z), q(W)."
	orders(t,
		sought{three, -1, "2 1 0"}, sought{three, math.MinInt, "2 1 0"}, sought{three, -3, "2 1 0"},
		sought{three, 0, "0 1 2"}, sought{three, 1, "1 2 0"}, sought{three, 2, "2 1 0"},
		sought{three, 3, "2 1 0"}, sought{three, 4, "2 1 0"}, sought{three, math.MaxInt, "2 1 0"},
		sought{four, -1, "0 1 2 3"}, sought{four, 0, "0 1 2 3"}, sought{four, 1, "1 0 2 3"}, sought{four, 2, "2 0 1 3"}, sought{four, 3, "3 0 1 2"}, sought{four, 4, "0 1 2 3"}, sought{four, 1 << 40, "0 1 2 3"},
		sought{"A: p() :- q(1), q(2), q(3), q(4).", -1, "0 1 2 3"},
		sought{"A: p() :- q(1), q(2), q(3), q(4).", 2, "2 0 1 3"},
		sought{"A: p() :- q(X), q(1, 2, 3).", 0, "0 1"}, // however few it has
		sought{"A: p() :- q(X), q(1, 2, 3).", 1, "1 0"},
		sought{"A: p() :- q(X), q(1, 2, 3).", 2, "1 0"},
		sought{"A: p() :- q(X).", -1, "0"}, sought{"A: p() :- q(X).", 0, "0"}, sought{"A: p() :- q(X).", 1, "0"},
	)
}

func TestConstants(t *testing.T) { // P14.1: they count at once
	orders(t,
		sought{"A: p() :- q(X), q(1).", -1, "1 0"},
		sought{"A: p() :- q(X), q(0).", -1, "1 0"},
		sought{"A: p() :- q(X), q(-7).", -1, "1 0"},
		sought{"A: p() :- q(X), q(a).", -1, "1 0"},
		sought{`A: p() :- q(X), q("X").`, -1, "1 0"},
		sought{"A: p() :- q(X), b says q(Y).", -1, "1 0"},
		sought{"A: p() :- q(X), 1 says q(Y).", -1, "1 0"},
		sought{"A: p() :- q(1), q(a, b), r(2, X, Y).", -1, "1 0 2"},
		sought{"A: p() :- q(1), b says q(2), r(2, X, 3, 4).", -1, "2 1 0"},
		sought{"A: p() :- q(1, 1), q(2), q(2, 2, 2).", -1, "2 0 1"}, // each argument, whatever it is
		sought{"A: p() :- q(), q(X), q(X, Y, Z), q(1).", -1, "3 0 1 2"},
		sought{"a: p() :- q(X), q(a).", -1, "1 0"},
	)
}

func TestHome(t *testing.T) { // P14.1: the Home's variable is known, those of the head and of To are not
	orders(t,
		sought{"A: p() :- q(X), q(A).", -1, "1 0"},
		sought{"A: p() :- q(X), A says q(Y).", -1, "1 0"},
		sought{"A: p() :- q(X, A), A says q(A).", -1, "1 0"},
		sought{"A: p() :- q(X), q(B).", -1, "0 1"},
		sought{"a: p() :- q(X), q(A).", -1, "0 1"},
		sought{"A: p(Y, Z) to C :- q(X), r(Y), C says q(Z).", -1, "0 1 2"},
		sought{"B: p() :- q(A), r(B).", -1, "1 0"},
	)
}

func TestAhead(t *testing.T) { // P14.1: what the By, the At and the Args of a literal ahead make known; its At is not counted
	orders(t,
		sought{"A: p() :- B says q(X), r(Y), s(B).", 0, "0 2 1"},
		sought{"A: p() :- q(X) at B, r(Y), s(B).", 0, "0 2 1"},
		sought{"A: p() :- q(X, B), r(Y), s(B).", 0, "0 2 1"},
		sought{"A: p() :- B says q(X), r(Y), B says s(Z).", 0, "0 2 1"},
		sought{"A: p() :- q(X) at B, r(Y), B says s(Z).", 0, "0 2 1"},
		sought{"A: p() :- q(X, B), r(Y), B says s(Z).", 0, "0 2 1"},
		sought{"A: p() :- q(B), r(Y), s(Z) at B.", 0, "0 1 2"},
		sought{"A: p() :- q(X), r(Y) at b.", -1, "0 1"},
		sought{"A: p() :- q(X), r(Y) at A.", -1, "0 1"},
		sought{"A: p() :- q(X), r(Y) at 1.", -1, "0 1"},
		sought{"A: p() :- e(W, V), e(Z, W), e(Y, Z), e(1, Y).", -1, "3 2 1 0"},
		sought{"A: p() :- q(B), B says q(Y), q(1).", -1, "2 0 1"},
		sought{"A: p() :- q(B), B says q(Y), q(1).", 0, "0 1 2"},
		sought{"A: p() :- q(X), r(Y), s(X, Y), u(X, 1).", 0, "0 3 2 1"},
		sought{"A: p() :- q(X), r(Y), s(X, Y), u(X, 1).", 1, "1 2 3 0"},
		sought{"A: p() :- e(X, Y), e(Y, Z), e(Z, V), e(Z, Z).", 0, "0 1 3 2"},
		sought{"A: p() :- C says q(X) at B, D says r(Y) at C, E says s(B, C) at D.", 1, "1 0 2"},
	)
}

func TestManyTimes(t *testing.T) { // P14.1: one variable several times in one literal
	orders(t,
		sought{"A: p() :- q(X), r(X, X), s(X, 1).", 0, "0 1 2"},
		sought{"A: p() :- q(X), s(X, 1), r(X, X, X).", 0, "0 2 1"},
		sought{"A: p() :- q(X), s(X, 1), r(X, X, X).", -1, "1 2 0"},
		sought{"A: p() :- q(1), r(X, X, X).", -1, "0 1"},
		sought{"A: p() :- q(X), r(X, X, X).", -1, "0 1"}, // no literal makes its own known
		sought{"A: p() :- q(B), s(1, Y), B says r(B).", 0, "0 2 1"},
		sought{"A: p() :- q(B), s(1, 2), B says r(B, B).", 0, "0 2 1"},
		sought{"A: p() :- q(1, 2), r(A, A, A), A says s(A, A).", -1, "1 2 0"},
		sought{"A: p() :- e(X, X), q(1, 2), r(X, Y, Y), s(Y, X, X).", 0, "0 1 3 2"},
	)
}

func TestNone(t *testing.T) { // P14.1: none counts for nothing; a variable with a value is a variable; whatever else is no variable is a constant
	x, none := variable("X"), api.Term{}
	lit := func(by api.Term, args ...api.Term) api.Literal { return api.Literal{By: by, Pred: "q", Args: args} }
	for i, one := range []struct {
		home api.Term
		body []api.Literal
		want []int
	}{
		{variable("A"), []api.Literal{lit(none, x), lit(none, none, none)}, []int{0, 1}},
		{variable("A"), []api.Literal{lit(none, none, none, none), lit(none, number(1))}, []int{1, 0}},
		{variable("A"), []api.Literal{lit(none, x, none), lit(name("b"))}, []int{1, 0}},
		{variable("A"), []api.Literal{lit(none, variable("Y")), lit(none, api.Term{Var: "X", Val: num(1)})}, []int{0, 1}},
		{variable("A"), []api.Literal{lit(none, x), lit(none, api.Term{Var: "A", Val: num(1)})}, []int{1, 0}},
		{api.Term{Var: "A", Val: text("a")}, []api.Literal{lit(none, x), lit(none, variable("A"))}, []int{1, 0}},
		{none, []api.Literal{lit(none, x), lit(none, none), lit(none, name("a"))}, []int{2, 0, 1}},
		{name("A"), []api.Literal{lit(none, x), lit(none, variable("A"))}, []int{0, 1}},
		{variable("A"), []api.Literal{lit(none, x), lit(none, value(api.Const{N: 1}))}, []int{1, 0}},
		{variable("A"), []api.Literal{lit(none, x), lit(none, value(api.Const{Num: true, S: "a"}))}, []int{1, 0}},
		{variable("A"), []api.Literal{lit(none, x), lit(value(api.Const{Num: true}))}, []int{1, 0}},
		{variable("A"), []api.Literal{{}, {}, lit(none, x)}, []int{0, 1, 2}},
		{variable("A"), []api.Literal{lit(none, none, x), {}, lit(none, x, none), lit(x, none)}, []int{0, 2, 3, 1}},
		{variable("A"), []api.Literal{{At: none}, {At: name("b")}, {By: name("b")}, {At: variable("A")}}, []int{2, 0, 1, 3}},
	} {
		r := api.Rule{Home: one.home, Body: one.body}
		if got := holdOrder(t, r, -1); !slices.Equal(got, one.want) {
			t.Errorf("%d: %d", i, got)
		}
		for first := range one.body {
			holdOrder(t, r, first)
		}
	}
	for _, first := range []int{math.MinInt, -1, 0, 1, math.MaxInt} {
		for _, r := range []api.Rule{{}, {Home: x, Pred: "p", Args: terms(x, none), To: x}, {Body: []api.Literal{}}} {
			if got := plan.Order(r, first); len(got) != 0 {
				t.Errorf("%+v, %d: %d", r, first, got)
			}
		}
	}
}

func TestOrders(t *testing.T) { // P14.1 by its words, of many rules; each number once
	die := rand.New(rand.NewSource(1))
	moved := 0
	for i := range 8000 {
		k := maker{die, 5 * (i % 4)}
		r := k.rule(6)
		for first := -1; first <= len(r.Body); first++ {
			got := holdOrder(t, r, first)
			if !slices.IsSorted(got) {
				moved++
			}
			slices.Sort(got)
			for j, n := range got {
				if j != n || len(got) != len(r.Body) {
					t.Fatalf("%+v, %d: %d", r, first, got)
				}
			}
		}
	}
	if moved < 8000 {
		t.Error("only so many are in another order:", moved)
	}
}

// found is a rule, who is its Home, which literal is what fact, the facts, and the bodies of them.
type found struct {
	rule, me string
	first    int
	f, l     string
	want     string
}

func finds(t *testing.T, l ...found) {
	t.Helper()
	for _, x := range l {
		r, f, known := rule(t, x.rule), one(x.f), facts(x.l)
		if got := holdBodies(t, r, x.me, x.first, f, known); !sameLists(got, lists(x.want)) {
			t.Errorf("%+v: %+v", x, got)
		}
	}
}

func TestWhoIsHome(t *testing.T) { // P14.2: me that can't be the Home, that is the constant Home, a Home that is a variable
	all := "a q 1; b q 2; c q 3; 5 q 4"
	finds(t,
		found{"A: p(X) :- q(X).", "a", -1, "", all, "a q 1"},
		found{"A: p(X) :- q(X).", "b", -1, "", all, "b q 2"},
		found{"A: p(X) :- q(X).", "d", -1, "", all, ""},
		found{"A: p(X) :- q(X).", "A", -1, "", all, ""},
		found{"A: p(X) :- q(X).", "5", -1, "", all, "5 q 4"},
		found{"a: p(X) :- q(X).", "a", -1, "", all, "a q 1"},
		found{"a: p(X) :- q(X).", "b", -1, "", all, ""},
		found{"a: p(X) :- q(X).", "b", 0, "a q 1", all, ""},
		found{"a: p(X) :- q(X).", "b", 0, "b q 1", all, ""},
		found{"a: p(X) :- q(X).", "", -1, "", all, ""},
		found{"5: p(X) :- q(X).", "5", -1, "", all, ""}, // me is a text
		found{`"5": p(X) :- q(X).`, "5", -1, "", all, "5 q 4"},
		found{"A: p(X) :- q(X) at b.", "a", -1, "", all, "b q 2"},
		found{"A: p(X) :- q(X) at B.", "a", -1, "", all, "5 q 4|a q 1|b q 2|c q 3"},
		found{"A: p() :- q(A).", "a", -1, "", "a q a; a q b; b q b", "a q a"},
		found{"A: p() :- q(A) at B, r(B).", "a", -1, "", "b q a; c q c; c q a; a r b; a r a", "b q a; a r b"},
		found{"a: p() :- q(A).", "a", -1, "", "a q a; a q b", "a q a|a q b"},
	)
}

func TestNoLiterals(t *testing.T) { // P14.2: the empty list, once; nothing, if me can't be the Home
	l := facts("a q 1; a p; b p")
	for _, first := range []int{math.MinInt, -1, 0, 1, math.MaxInt} {
		for _, home := range terms(variable("A"), name("a"), name("b"), number(1), api.Term{}) {
			for _, r := range []api.Rule{{Home: home}, {Home: home, Pred: "p", Args: terms(variable("X")), To: variable("Y"), Body: []api.Literal{}}} {
				got := holdBodies(t, r, "a", first, l[0], l)
				want := 0
				if home == variable("A") || home == name("a") {
					want = 1
				}
				if len(got) != want || want == 1 && len(got[0]) != 0 {
					t.Errorf("%+v, %d: %+v", r, first, got)
				}
			}
		}
	}
}

func TestFirstIsNoLiteral(t *testing.T) { // P14.2: below and beyond: all are of l
	for _, first := range []int{math.MinInt, -2, -1, 2, 3, math.MaxInt} {
		finds(t,
			found{"A: p() :- q(X), q(Y).", "a", first, "a q 3", "a q 1; a q 2", "a q 1; a q 1|a q 1; a q 2|a q 2; a q 1|a q 2; a q 2"},
			found{"A: p() :- q(X), q(Y).", "a", first, "a q 3", "", ""},
			found{"A: p() :- q(X), q(Y).", "a", first, "a q 1", "a q 1", "a q 1; a q 1"},
			found{"A: p() :- q(X), r(X).", "a", first, "a r 1", "a q 1; a q 2; a r 2", "a q 2; a r 2"},
		)
	}
}

func TestFirstIsALiteral(t *testing.T) { // P14.2: f at that place alone, the others of l; f in l and not in it
	two := "A: p() :- q(X), q(Y)."
	three := "A: p() :- q(X), q(Y), q(Z)."
	finds(t,
		found{two, "a", 0, "a q 1", "a q 1; a q 2", "a q 1; a q 1|a q 1; a q 2"},
		found{two, "a", 1, "a q 1", "a q 1; a q 2", "a q 1; a q 1|a q 2; a q 1"},
		found{two, "a", 0, "a q 3", "a q 1; a q 2", "a q 3; a q 1|a q 3; a q 2"},
		found{two, "a", 1, "a q 3", "a q 1; a q 2", "a q 1; a q 3|a q 2; a q 3"},
		found{two, "a", 0, "a q 3", "", ""},
		found{two, "a", 0, "a q 3", "a q 3", "a q 3; a q 3"},
		found{two, "a", 0, "a r 3", "a q 1", ""},
		found{two, "a", 0, "b q 3", "a q 1; b q 3", ""},
		found{two, "a", 1, "a.b q 3", "a q 1; a.b q 3", ""},
		found{two, "a", 1, "a q 1 1", "a q 1; a q 1 1", ""},
		found{three, "a", 1, "a q 3", "a q 1; a q 2", "a q 1; a q 3; a q 1|a q 1; a q 3; a q 2|a q 2; a q 3; a q 1|a q 2; a q 3; a q 2"},
		found{three, "a", 2, "a q 0", "a q 1", "a q 1; a q 1; a q 0"},
		found{"A: p() :- q(X).", "a", 0, "a q 1", "", "a q 1"},
		found{"A: p() :- q(X).", "a", 0, "a q 1", "a q 2; a q 3", "a q 1"},
		found{"A: p() :- q(X).", "a", 0, "a q 1", "a q 2; a q 1", "a q 1"},
		found{"A: p() :- q(X), r(X).", "a", 0, "a q 1", "a q 2; a r 1; a r 2", "a q 1; a r 1"},
		found{"A: p() :- q(X), r(X).", "a", 1, "a r 1", "a q 2; a q 1; a r 2", "a q 1; a r 1"},
		found{"A: p() :- q(X), r(X).", "a", 1, "a r 3", "a q 2; a q 1; a r 2", ""},
		found{"A: p() :- q(X), r(Y), q(Y).", "a", 2, "a q 5", "a q 1; a q 2; a r 5; a r 1", "a q 1; a r 5; a q 5|a q 2; a r 5; a q 5"},
	)
}

func TestSharedVariables(t *testing.T) { // P14.2: the later one's match hangs on the earlier one's; one fact for several literals
	ring := "a e 1 2; a e 2 3; a e 3 1; a e 3 3"
	finds(t,
		found{"A: p() :- q(X), r(X, Y), s(1, Y).", "a", -1, "", "a s 1 5; a q 2; a q 1; a r 1 5; a r 1 4; a r 2 4; a s 1 4; a s 2 4; a r 2 6",
			"a q 1; a r 1 4; a s 1 4|a q 1; a r 1 5; a s 1 5|a q 2; a r 2 4; a s 1 4"},
		found{"A: p() :- e(X, Y), e(Y, Z).", "a", -1, "", ring, "a e 1 2; a e 2 3|a e 2 3; a e 3 1|a e 2 3; a e 3 3|a e 3 1; a e 1 2|a e 3 3; a e 3 1|a e 3 3; a e 3 3"},
		found{"A: p() :- e(X, Y), e(Y, Z).", "a", 0, "a e 2 3", ring, "a e 2 3; a e 3 1|a e 2 3; a e 3 3"},
		found{"A: p() :- e(X, Y), e(Y, Z).", "a", 1, "a e 3 1", ring, "a e 2 3; a e 3 1|a e 3 3; a e 3 1"},
		found{"A: p() :- e(X, Y), e(Y, Z).", "a", 1, "a e 4 1", ring, ""},
		found{"A: p() :- e(X, Y), e(Y, Z), e(Z, X).", "a", -1, "", ring, "a e 1 2; a e 2 3; a e 3 1|a e 2 3; a e 3 1; a e 1 2|a e 3 1; a e 1 2; a e 2 3|a e 3 3; a e 3 3; a e 3 3"},
		found{"A: p() :- e(X, X).", "a", -1, "", ring, "a e 3 3"},
		found{"A: p() :- e(X, Y), e(Y, X), e(Y, Y).", "a", -1, "", ring, "a e 3 3; a e 3 3; a e 3 3"},
		found{"A: p() :- q(X), q(X), q(X), q(X).", "a", -1, "", "a q 2; a q 1", "a q 1; a q 1; a q 1; a q 1|a q 2; a q 2; a q 2; a q 2"},
		found{"A: p() :- q(X), r(X).", "a", -1, "", "a q 1; a r 2", ""},
		found{"A: p() :- q(X), r(X).", "a", -1, "", "a q 1; a q 5; a r x; a r 5", "a q 5; a r 5"},
		found{`A: p() :- q(X), r(X).`, "a", -1, "", "a q 5; a r 5 5", ""},
		found{"A: p() :- q(X), r(Y), s(X, Y).", "a", -1, "", "a q 1; a q 2; a r 1; a r 2; a s 2 1; a s 1 3", "a q 2; a r 1; a s 2 1"},
		found{"A: p() :- s(X, Y), q(Y), s(Z, X), q(Z).", "a", -1, "", "a s 1 2; a s 2 1; a s 2 2; a q 2", "a s 1 2; a q 2; a s 2 1; a q 2|a s 2 2; a q 2; a s 2 2; a q 2"},
	)
}

func TestWhoSaysWhere(t *testing.T) { // P14.2: literals with By and At
	finds(t,
		found{"A: p() :- B says q(X), trusts(B).", "a", -1, "", "a.b q 1; a.c q 2; a.d q 3; a trusts d; a trusts b; a q 4; b q 5", "a.b q 1; a trusts b|a.d q 3; a trusts d"},
		found{"A: p() :- B says q(X), trusts(B).", "a", 0, "a.b q 9", "a trusts d; a trusts b", "a.b q 9; a trusts b"},
		found{"A: p() :- B says q(X), trusts(B).", "a", 1, "a trusts c", "a.b q 1; a.c q 2; a.c q 1", "a.c q 1; a trusts c|a.c q 2; a trusts c"},
		found{"A: p() :- b says q(X).", "a", -1, "", "a.b q 1; a q 2; b q 3; a.c q 4", "a.b q 1"},
		found{"A: p() :- B says q(X), q(X) at B.", "a", -1, "", "a.b q 1; a q 2; b q 1; b q 2; a.c q 1; c q 3", "a q 2; a q 2|a.b q 1; b q 1"},
		found{"A: p() :- q(B), r(X) at B.", "a", -1, "", "a q b; a q c; b r 7; c r 8; c r 6; d r 1; b.c r 1", "a q b; b r 7|a q c; c r 6|a q c; c r 8"},
		found{"A: p() :- q(B), r(X) at B.", "a", 1, "c r 6", "a q b; a q c; b r 7", "a q c; c r 6"},
		found{"A: p() :- q(5), r(X) at 5.", "a", -1, "", "a q 5; 5 r 1", ""}, // a place is a text
		found{"A: p() :- q(B), r(X) at B.", "5", -1, "", "5 q 5; 5 r 1", ""},
		found{"A: p() :- C says q(X) at B, r(C, B).", "a", -1, "", "b.c q 1; c.b q 1; b q 1; a r c b; a r b b", "b q 1; a r b b|b.c q 1; a r c b"},
		found{"A: p() :- B says q() at B, A says r(), A says s() at A.", "a", -1, "", "b q; b.a q; a q; a r; a.b r; a s; a.b s", "a q; a r; a s|b q; a r; a s"},
		found{"A: p() :- A says q(X) at B.", "a", -1, "", "b.a q 1; b q 2; a q 3; a.b q 4", "a q 3|b.a q 1"},
	)
}

func TestInOrderEachOnce(t *testing.T) { // P14.2: repetitions in l; by fact.Order, one by one; the facts in the rule's order, whatever was looked for first
	finds(t,
		found{"A: p() :- q(X).", "a", -1, "", "a q 1; a q 1; a q 2; a q 1; a q 2", "a q 1|a q 2"},
		found{"A: p() :- q(X), q(Y).", "a", -1, "", "a q 1; a q 1; a q 1", "a q 1; a q 1"},
		found{"A: p() :- q(X), q(Y).", "a", 0, "a q 1", "a q 1; a q 2; a q 1; a q 2", "a q 1; a q 1|a q 1; a q 2"},
		found{"A: p() :- q(X).", "a", -1, "", "a q x; a q 10; a q -1; a q 2; a q X; a q 1x", "a q -1|a q 2|a q 10|a q 1x|a q X|a q x"},
		found{"A: p() :- B says q(X) at C.", "a", -1, "", "b q 1; a.b q 1; b.a q 2; a q 3; a.b q 0", "a q 3|a.b q 0|a.b q 1|b.a q 2|b q 1"},
		found{"A: p() :- q(X), r(5).", "a", -1, "", "a r 5; a q 3; a q 2; a q 4", "a q 2; a r 5|a q 3; a r 5|a q 4; a r 5"},
		found{"A: p() :- q(X), r(1, X).", "a", -1, "", "a r 1 3; a r 1 1; a r 1 2; a q 2; a q 3; a q 1", "a q 1; a r 1 1|a q 2; a r 1 2|a q 3; a r 1 3"},
		found{"A: p() :- q(X, Y), r(1, Y).", "a", -1, "", "a q 1 9; a q 2 8; a q 3 7; a r 1 7; a r 1 8; a r 1 9", "a q 1 9; a r 1 9|a q 2 8; a r 1 8|a q 3 7; a r 1 7"},
		found{"A: p() :- q(X), q(Y), q(Z).", "a", 2, "a q 1", "a q 2; a q 1", "a q 1; a q 1; a q 1|a q 1; a q 2; a q 1|a q 2; a q 1; a q 1|a q 2; a q 2; a q 1"},
		found{"A: p() :- q(X), r(Y), s(X, Y, 1).", "a", 1, "a r 5", "a s 1 5 1; a s 2 5 1; a s 1 5 2; a s 3 4 1; a q 2; a q 1; a q 3", "a q 1; a r 5; a s 1 5 1|a q 2; a r 5; a s 2 5 1"},
	)
}

func TestOddFacts(t *testing.T) { // P14.2: facts and terms that may not be are held against each other all the same
	odd := oddConsts()
	var l []api.Fact
	for _, c := range odd {
		for _, d := range odd {
			l = append(l, api.Fact{At: "a", By: "a", Pred: "q", Args: []api.Const{c, d}})
		}
		l = append(l, api.Fact{At: "a", By: "a", Pred: "r", Args: []api.Const{c}})
	}
	l = append(l, api.Fact{}, api.Fact{At: "a"}, api.Fact{By: "a", Pred: "r"}, api.Fact{Pred: "r", Args: []api.Const{{}}})
	x, y := variable("X"), variable("Y")
	many := 0
	for _, r := range []api.Rule{
		{Home: variable("A"), Body: []api.Literal{{Pred: "q", Args: terms(x, y)}, {Pred: "r", Args: terms(y)}}},
		{Home: variable("A"), Body: []api.Literal{{Pred: "q", Args: terms(x, x)}, {Pred: "r", Args: terms(y)}, {Pred: "q", Args: terms(x, y)}}},
		{Home: variable("A"), Body: []api.Literal{{}, {At: x}, {By: x}, {At: y, Pred: "r", Args: terms(y)}}},
	} {
		for _, me := range []string{"a", ""} {
			for first := range 3 {
				many += len(holdBodies(t, r, me, -1, api.Fact{}, l))
				many += len(holdBodies(t, r, me, first, api.Fact{}, l))
				many += len(holdBodies(t, r, me, first, l[3], l))
			}
		}
	}
	for _, a := range append(oddTerms(), x, variable("A"), name("a")) {
		for _, b := range append(oddTerms(), x, y, number(1), name("a")) {
			r := api.Rule{Home: a, Body: []api.Literal{{Pred: "q", Args: terms(b, y)}, {By: b, Pred: "r", Args: terms(y)}, {Pred: "r", Args: terms(y), At: b}}}
			for first := -1; first < 2; first++ {
				many += len(holdBodies(t, r, "a", first, l[4], l))
			}
		}
	}
	if many < 200 {
		t.Error("only so many:", many)
	}
}

func TestLikeTexts(t *testing.T) { // P14.2: values that would be the same, were they laid one behind the other
	l := facts("a q 1 12; a q 11 2; a q a bc; a q ab c; a q 1 x; a r 1 12; a r 11 2; a r ab c; a r a bc; a r 1 1x; a s 12 1; a s c ab")
	for _, between := range []string{"false 0 1 ", "false 0 ", "false 1 ", "false ", "0 ", " ", "\x00"} {
		l = append(l, fact.Own("a", "q", text("a"), text("b"+between+"c")), fact.Own("a", "r", text("a"+between+"b"), text("c")), fact.Own("a", "s", text("c"), text("a"+between+"b")))
	}
	l = append(l, fact.Own("a", "r", text(""), text("a")), fact.Own("a", "q", text("a"), text("")))
	for _, s := range []string{"A: p() :- q(X, Y), r(X, Y).", "A: p() :- q(X, Y), r(X, Y), s(Y, X).", "A: p() :- q(X, Y), q(Z, Y), r(X, Y), r(Z, Y).", "A: p() :- s(Y, X), q(V, W), r(X, Y), r(V, W)."} {
		r := rule(t, s)
		if got := holdBodies(t, r, "a", -1, api.Fact{}, l); len(got) < 2 {
			t.Errorf("%s: %+v", s, got)
		}
	}
}

func TestLikeForms(t *testing.T) { // P14.2: literals that would be the same, were their parts laid one behind the other
	var l []api.Fact
	var literals []api.Literal
	for _, s := range []string{"", "a", "b", "n", "v0 ", "a cfalse 0 1 b", "acfalse 0 1 b", "acfalse 0  b", "a cfalse 0  b", "1 a", "ctrue 1 0 ", "q1", "1"} {
		for _, args := range [][]api.Term{{name(s)}, {name(s), name("b")}, {name("a"), name(s)}, {variable(s)}, {variable("X" + s), variable("X")}, {variable("X"), variable(s + "X")}, {variable("X"), name(s), variable("X")}} {
			literals = append(literals, api.Literal{Pred: "q", Args: args}, api.Literal{Pred: "q" + s, Args: args})
		}
		l = append(l, fact.Own("a", "q", text(s)), fact.Own("a", "q", text(s), text("b")), fact.Own("a", "q", text("a"), text(s)), fact.Own("a", "q"+s, text(s)), fact.Own("a", "q", text("a"), text(s), text("b")), fact.Own("a", "q", text("a"), text(s), text("a")))
	}
	l = fact.Sorted(l...)
	for _, v := range literals {
		for _, w := range literals {
			holdBodies(t, api.Rule{Home: variable("A"), Body: []api.Literal{v, w}}, "a", -1, api.Fact{}, l)
		}
	}
}

func TestManyBodies(t *testing.T) { // P14.2 by its words, of many rules and facts
	die := rand.New(rand.NewSource(2))
	some, several, inL, notInL := 0, 0, 0, 0
	for i := range 40000 {
		k := maker{die, 4 * (i % 3)}
		r := k.rule(4)
		l := k.suited(r, 14)
		f, first := k.of(l), k.first(r)
		if first >= 0 && first < len(r.Body) && k.Intn(2) == 0 {
			f = k.instance(r.Body[first])
		}
		got := holdBodies(t, r, pick(k, "a", "a", "a", "b", ""), first, f, l)
		if len(r.Body) < 2 || len(got) == 0 {
			continue
		}
		some++
		if len(got) > 1 {
			several++
		}
		switch {
		case first < 0 || first >= len(r.Body):
		case fact.Has(l, f):
			inL++
		default:
			notInL++
		}
	}
	if some < 2000 || several < 1200 || inL < 300 || notInL < 300 {
		t.Error("only so many:", some, several, inL, notInL)
	}
}

func TestEachShortRule(t *testing.T) { // P14.2 of all rules of two and some of three literals of a few kinds
	var kinds []api.Literal
	x, y, b := variable("X"), variable("Y"), variable("B")
	for _, args := range [][]api.Term{{x, y}, {y, x}, {x, x}, {y, b}, {x, number(1)}, {b, b}} {
		kinds = append(kinds, api.Literal{Pred: "e", Args: args})
	}
	kinds = append(kinds, api.Literal{By: b, Pred: "q", Args: terms(x)}, api.Literal{Pred: "q", Args: terms(y), At: b}, api.Literal{By: b, Pred: "q", Args: terms(b), At: x}, api.Literal{Pred: "q", Args: terms(variable("A"))})
	l := facts("a e 1 1; a e 1 2; a e 2 1; a e b b; a e 2 b; a q 1; a.b q 1; b q 2; a.b q b; a q a")
	many := 0
	for i, v := range kinds {
		for j, w := range kinds {
			r := api.Rule{Home: variable("A"), Pred: "p", Body: []api.Literal{v, w}}
			for first := -1; first < 2; first++ {
				for _, f := range l {
					many += len(holdBodies(t, r, "a", first, f, l))
				}
			}
			r.Body = append(r.Body, kinds[(i+2*j)%len(kinds)])
			for first := -1; first < 3; first++ {
				many += len(holdBodies(t, r, "a", first, l[(i+j)%len(l)], l))
			}
		}
	}
	if many < 3000 {
		t.Error("only so many:", many)
	}
}

func TestOneFactMore(t *testing.T) { // P14.3: the bodies of l and f are those of l, and those that have f at one of their places
	die := rand.New(rand.NewSource(3))
	more := 0
	for i := range 8000 {
		k := maker{die, 3 * (i % 2)}
		r := k.rule(4)
		l := k.suited(r, 12)
		f := k.of(l)
		if len(r.Body) > 0 && k.Intn(3) > 0 {
			f = k.instance(pick(k, r.Body...))
		}
		with := append(slices.Clone(l), f)
		without, all := plan.Bodies(r, "a", -1, f, l), plan.Bodies(r, "a", -1, f, with)
		var come [][]api.Fact
		for j := range r.Body {
			for _, body := range plan.Bodies(r, "a", j, f, with) {
				if !sameFact(body[j], f) {
					t.Fatalf("%+v, %d, %+v, %+v: %+v", r, j, f, with, body)
				}
				come = append(come, body)
			}
		}
		for _, body := range all {
			if has(come, body) != fact.Has(body, f) || !has(come, body) && !has(without, body) {
				t.Fatalf("%+v, %+v, %+v: %+v comes of nothing", r, f, l, body)
			}
			if !has(without, body) {
				more++
			}
		}
		for _, body := range append(come, without...) {
			if !has(all, body) {
				t.Fatalf("%+v, %+v, %+v: %+v is none of all", r, f, l, body)
			}
		}
	}
	if more < 1000 {
		t.Error("only so many come:", more)
	}
}

// binds is what a body binds.
func binds(t *testing.T, r api.Rule, me string, body []api.Fact) []api.Bind {
	t.Helper()
	env, ok := match.Unify(r.Home, text(me), nil)
	for i := 0; ok && i < len(r.Body); i++ {
		env, ok = match.Literal(r.Home, r.Body[i], body[i], env)
	}
	if !ok || len(body) != len(r.Body) {
		t.Fatalf("%+v, %q: %+v does not match", r, me, body)
	}
	return env
}

func TestHeadsFollow(t *testing.T) { // P14.3: a head that match.Head tells follows; all of them are what follows at once
	die := rand.New(rand.NewSource(4))
	told, untold := 0, 0
	for i := range 8000 {
		k := maker{die, 3 * (i % 2)}
		r := k.rule(4)
		l := k.suited(r, 12)
		me := pick(k, "a", "a", "b")
		var heads []api.Fact
		for _, body := range plan.Bodies(r, me, -1, api.Fact{}, l) {
			head, ok := match.Head(r, binds(t, r, me, body))
			if !ok {
				untold++
				continue
			}
			told++
			if head.By != me || !match.Follows(r, api.Deriv{Rule: i, Head: head, Body: body}) {
				t.Fatalf("%+v: %+v does not follow from %+v", r, head, body)
			}
			heads = append(heads, head)
		}
		var names []string
		for _, h := range heads {
			names = append(names, h.At)
		}
		w := model.World{Homes: []string{me}, Names: append(names, "a", "b", "c", "")}
		if once := model.Once(w, []api.Rule{r}, l); !sameFacts(once, fact.Sorted(heads...)) {
			t.Fatalf("%+v, %q, %+v: %+v; at once %+v", r, me, l, heads, once)
		}
	}
	if told < 2000 || untold < 200 {
		t.Error("only so many:", told, untold)
	}
}

func TestNoPanic(t *testing.T) { // R1, R5: whatever the fields hold
	for _, s := range []string{"", "a", "\x00", "\xff\xfe", "é", "~ask0.1", "says", strings.Repeat("x", 1<<14)} {
		for _, n := range []int{0, -1, math.MinInt, math.MaxInt} {
			for _, is := range []bool{false, true} {
				c := api.Const{Num: is, N: n, S: s}
				l := []api.Fact{{}, {At: s, By: s, Pred: s}, {At: s, By: s, Pred: s, Args: []api.Const{c, c}}, {At: s, By: "b", Pred: s, Args: []api.Const{c}}, {At: s, By: s, Pred: s, Args: []api.Const{text(s)}}}
				for _, x := range []api.Term{{}, variable(s), value(c), {Var: s, Val: c}} {
					for _, r := range []api.Rule{{}, {Home: x}, {Home: x, Pred: s, Args: terms(x, x), To: x, Body: []api.Literal{{}, {By: x, Pred: s, Args: terms(x, x), At: x}}}, {Home: variable("A"), Pred: s, Args: terms(x), Body: []api.Literal{{Pred: s, Args: terms(x)}, {By: x, Pred: s, Args: terms(variable("B"))}}}} {
						for _, first := range []int{n, 0, 1, 2} {
							holdOrder(t, r, first)
							holdBodies(t, r, s, first, l[3], l)
							holdBodies(t, r, "a", first, l[2], nil)
							holdBodies(t, r, s, first, api.Fact{}, l)
						}
					}
				}
			}
		}
	}
}

// many are facts of one argument.
func many(pred string, from, to int) (l []api.Fact) {
	for i := from; i < to; i++ {
		l = append(l, fact.Own("a", pred, num(i)))
	}
	return l
}

func TestGreatTables(t *testing.T) { // R1: as many facts as there may be in a table, and far more bodies that begin well than bodies
	var path, star, grid []api.Fact
	for i := range api.MaxTable {
		path = append(path, fact.Own("a", "e", num(i), num(i+1)))
		grid = append(grid, fact.Own("a", "e", num(i/64), num(64+i%64)))
	}
	for i := 1; i < 500; i++ {
		star = append(star, fact.Own("a", "e", num(i), num(0)), fact.Own("a", "e", num(0), num(i)))
	}
	apart := slices.Concat(many("q", 0, 1000), many("u", 0, 1000), many("v", 1000, 2000))
	for _, x := range []struct {
		rule  string
		first int
		f     api.Fact
		l     []api.Fact
		want  int
	}{
		{"A: p() :- e(W, X), e(X, Y), e(Y, Z), e(Z, V).", -1, api.Fact{}, path, api.MaxTable - 3},
		{"A: p() :- e(W, X), e(X, Y), e(Y, Z), e(Z, V).", 2, path[7], path, 1},
		{"A: p() :- e(X, Y), e(Y, Z), e(Z, X).", -1, api.Fact{}, star, 0},
		{"A: p() :- q(W), e(X, Y), e(Y, Z), e(Z, X).", -1, api.Fact{}, append(many("q", 0, 1000), star...), 0},
		{"A: p() :- e(X, Y), e(Y, Z).", -1, api.Fact{}, grid, 0},
		{"A: p() :- e(X, Y), e(Z, Y), e(X, V), e(Z, V).", 0, grid[9], grid, 64 * 64},
		{"A: p() :- q(X), q(Y), u(Z), v(Z).", -1, api.Fact{}, apart, 0},
		{"A: p() :- q(X), u(Z), v(Z).", -1, api.Fact{}, append(many("u", 1000, 1001), apart...), 1000},
		{"A: p() :- q(X), q(Y), q(Z), never(X, Y, Z).", -1, api.Fact{}, many("q", 0, api.MaxTable), 0},
		{"A: p() :- q(X), q(Y), q(Z), r(X, Y, Z).", -1, api.Fact{}, append(many("q", 0, api.MaxTable), facts("a r 1 2 3; a r 1 2 -3")...), 1},
		{"A: p() :- q(X), q(Y).", -1, api.Fact{}, many("q", 0, 300), 90000},
	} {
		if got := plan.Bodies(rule(t, x.rule), "a", x.first, x.f, x.l); len(got) != x.want || !ordered(got) {
			t.Errorf("%s, %d: %d bodies; want %d", x.rule, x.first, len(got), x.want)
		}
	}
}

func TestLongRules(t *testing.T) { // R1: far more literals than a program has
	two := facts("a e 0 0; a e 0 1; a e 1 0; a e 1 1")
	for _, n := range []int{10, 100, 10000} {
		chain := api.Rule{Home: variable("A"), Pred: "p"}
		for i := range n {
			chain.Body = append(chain.Body, api.Literal{Pred: "e", Args: terms(variable("X"+strconv.Itoa(i)), variable("X"+strconv.Itoa(i+1)))})
		}
		dead := chain
		dead.Body = append(slices.Clone(chain.Body), api.Literal{Pred: "q", Args: terms(variable("X" + strconv.Itoa(n)))})
		if got := plan.Bodies(dead, "a", -1, api.Fact{}, append(facts("a q 2; a q 3"), two...)); len(got) != 0 {
			t.Fatal(n, len(got))
		}
		got := plan.Bodies(chain, "a", n-1, two[0], facts("a e 0 0; a e 1 1; a e 2 0; a e 2 1"))
		if len(got) != 2 || !ordered(got) || len(got[0]) != n || !sameFact(got[1][0], one("a e 2 0")) {
			t.Fatal(n, len(got))
		}
		order := plan.Order(chain, n/2)
		slices.Sort(order[1:])
		if len(order) != n || order[0] != n/2 || order[1] != 0 || order[n-1] != n-1 {
			t.Fatal(n, len(order))
		}
	}
}

// roomy is a list with spare room behind it, in which something stands.
func roomy[T any](l []T, spare T) []T {
	m := append(slices.Clone(l), spare, spare, spare)
	return m[:len(l)]
}

// roomyFact is a fact whose arguments have spare room.
func roomyFact(f api.Fact) api.Fact {
	f.Args = roomy(f.Args, text("spare"))
	return f
}

func roomyFacts(l []api.Fact) []api.Fact {
	m := roomy(l, api.Fact{At: "spare", Pred: "spare"})
	for i := range m {
		m[i] = roomyFact(m[i])
	}
	return m
}

func roomyRule(r api.Rule) api.Rule {
	r.Args = roomy(r.Args, variable("spare"))
	r.Body = roomy(r.Body, api.Literal{Pred: "spare"})
	for i := range r.Body {
		r.Body[i].Args = roomy(r.Body[i].Args, variable("spare"))
	}
	return r
}

// whole is a list with all its spare room.
func whole[T any](l []T) []T { return l[:cap(l)] }

func sameTerms(a, b []api.Term) bool { return slices.Equal(whole(a), whole(b)) }

func sameRule(r, s api.Rule) bool {
	return r.Home == s.Home && r.Pred == s.Pred && sameTerms(r.Args, s.Args) && r.To == s.To && slices.EqualFunc(whole(r.Body), whole(s.Body), func(x, y api.Literal) bool {
		return x.By == y.By && x.Pred == y.Pred && sameTerms(x.Args, y.Args) && x.At == y.At
	})
}

func sameRoom(a, b []api.Fact) bool {
	return slices.EqualFunc(whole(a), whole(b), func(f, g api.Fact) bool {
		return f.At == g.At && f.By == g.By && f.Pred == g.Pred && slices.Equal(whole(f.Args), whole(g.Args))
	})
}

// spoil overwrites all of a list, with its spare room.
func spoil(l []api.Fact) {
	for i, f := range whole(l) {
		for j := range whole(f.Args) {
			whole(f.Args)[j] = text("spoilt")
		}
		whole(l)[i] = api.Fact{At: "spoilt"}
	}
}

func TestHandedInStays(t *testing.T) { // R3: spare room too; R4: the same again
	die := rand.New(rand.NewSource(5))
	count := 0
	for range 3000 {
		k := maker{die, 3}
		r := roomyRule(k.rule(4))
		l := roomyFacts(k.suited(r, 12))
		f, first := roomyFact(k.of(l)), k.first(r)
		if first >= 0 && first < len(r.Body) && k.Intn(2) == 0 {
			f = roomyFact(k.instance(r.Body[first]))
		}
		as, known, given := roomyRule(r), roomyFacts(l), []api.Fact{roomyFact(f)}
		order, got := plan.Order(r, first), plan.Bodies(r, "a", first, f, l)
		count += len(got)
		stays := func(when string) {
			if !sameRule(r, as) || !sameRoom(l, known) || !sameRoom([]api.Fact{f}, given) {
				t.Fatalf("%s: %+v, %+v, %+v: now %+v, %+v, %+v", when, as, known, given, r, l, f)
			}
		}
		stays("asked")
		for i := range whole(order) {
			whole(order)[i] = -7
		}
		for _, body := range got {
			spoil(body)
		}
		stays("what was told is overwritten")
		holdOrder(t, r, first)
		if again := holdBodies(t, r, "a", first, f, l); len(again) != len(got) {
			t.Fatalf("%+v, %+v, %+v: another answer", r, f, l)
		}
	}
	if count < 1000 {
		t.Error("only so many bodies:", count)
	}
}

func TestAnswerIsTheCallersOwn(t *testing.T) { // R3: no two lists of an answer share memory, nor do two answers, nor what was handed in and then changes
	r := rule(t, "A: p() :- q(X, Y), q(Y, Z), r(Z, 1), q(X, V).")
	f := roomyFact(one("a q 1 2"))
	l := roomyFacts(facts("a q 1 2; a q 2 1; a q 2 2; a q 1 1; a r 1 1; a r 2 1"))
	for _, first := range []int{-1, 0, 1, 3} {
		want, got := plan.Bodies(r, "a", first, f, l), plan.Bodies(r, "a", first, f, l)
		if len(want) < 4 || !sameLists(want, got) {
			t.Fatal(want, got)
		}
		for i, body := range got {
			_ = append(body, one("a spoilt 1")) // into the room behind it, if there is any
			for j := range body {
				args := body[j].Args
				_ = append(args, num(77), num(78))
				for k := range args {
					args[k] = num(99)
				}
				body[j].Args = slices.Clone(want[i][j].Args)
				if !sameLists(got, want) {
					t.Fatalf("%+v: another one changed: %+v", want, got)
				}
			}
		}
		for _, body := range got {
			spoil(body)
		}
		if again := plan.Bodies(r, "a", first, f, l); !sameLists(again, want) {
			t.Fatalf("%+v, then %+v", want, again)
		}
	}
	f, l = one("a q 1 2"), facts("a q 1 2; a q 2 1; a r 1 1")
	got, want := plan.Bodies(r, "a", 0, f, l), plan.Bodies(r, "a", 0, one("a q 1 2"), facts("a q 1 2; a q 2 1; a r 1 1"))
	spoil([]api.Fact{f})
	spoil(l)
	if len(got) == 0 || !sameLists(got, want) {
		t.Error(got, want)
	}
}

func FuzzPlan(f *testing.F) {
	for i := range 8 {
		f.Add(int64(i), byte(i*5), byte(i), i-2)
	}
	f.Fuzz(func(t *testing.T, seed int64, odd, most byte, first int) {
		k := maker{rand.New(rand.NewSource(seed)), int(odd) % 50}
		r := k.rule(int(most) % 6)
		l := k.suited(r, int(most)%12)
		x := k.of(l)
		for _, first := range []int{first, k.first(r)} {
			holdOrder(t, r, first)
			for _, body := range holdBodies(t, r, "a", first, x, l) {
				binds(t, r, "a", body)
			}
		}
		r, l = circle(k)
		holdBodies(t, r, "a", -1, x, l)
	})
}
