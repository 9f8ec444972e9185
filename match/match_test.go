package match_test

import (
	"math"
	"math/rand"
	"slices"
	"strconv"
	"strings"
	"testing"

	"avowal/api"
	"avowal/match"
)

func TestExamples(t *testing.T) { // the chapter's
	env, ok := match.Unify(variable("X"), num(5), nil)
	if !ok || !slices.Equal(env, binds("X", 5)) {
		t.Error(env, ok)
	}
	home, l := literal(t, "A: X says p(X)")
	env, ok = match.Literal(home, l, said("a", "b", "p", "b"), nil)
	if !ok || !slices.Equal(env, binds("A", "a", "X", "b")) {
		t.Error(env, ok)
	}
	env, ok = match.Literal(home, l, said("a", "b", "p", "c"), nil)
	if ok || len(env) != 0 {
		t.Error(env, ok)
	}
}

func TestValue(t *testing.T) { // P11.1: written out
	zero := api.Const{}
	odd := api.Const{Num: true, N: 7, S: "s"}
	for i, one := range []struct {
		term api.Term
		env  []api.Bind
		want api.Const
		ok   bool
	}{
		{number(5), nil, num(5), true},
		{number(0), nil, num(0), true},
		{number(math.MinInt), nil, num(math.MinInt), true},
		{number(math.MaxInt), binds("X", 1), num(math.MaxInt), true},
		{name("a"), nil, text("a"), true},
		{name("X"), binds("X", 1), text("X"), true},
		{name("5"), nil, text("5"), true},
		{name("\x00"), nil, text("\x00"), true},
		{name(strings.Repeat("x", 1000)), nil, text(strings.Repeat("x", 1000)), true},
		{variable("X"), binds("X", 1), num(1), true},
		{variable("X"), binds("X", "a"), text("a"), true},
		{variable("X"), binds("X", "X"), text("X"), true},
		{variable("X"), binds("Y", 1, "X", 2), num(2), true},
		{variable("X"), binds("X", 1, "X", 2), num(1), true},
		{variable("X"), binds("Y", 0, "X", 3, "Y", 1, "X", 2, "X", 3), num(3), true},
		{variable("X"), binds("X", zero), zero, true},
		{variable("X"), binds("X", zero, "X", 2), zero, true},
		{variable("X"), binds("X", odd), odd, true},
		{variable("X"), nil, zero, false},
		{variable("X"), []api.Bind{}, zero, false},
		{variable("X"), binds("Y", 1), zero, false},
		{variable("X"), binds("x", 1, "XX", 2, "", 3, "X\x00", 4, " X", 5), zero, false},
		{variable("X"), binds("A", "X"), zero, false},
		{api.Term{}, nil, zero, false},
		{api.Term{}, binds("X", 1), zero, false},
		{api.Term{}, binds("", 1), zero, false},
		{api.Term{}, binds("", "a", "", zero), zero, false},
		{api.Term{Var: "X", Val: num(5)}, nil, zero, false},
		{api.Term{Var: "X", Val: num(5)}, binds("X", 1), num(1), true},
		{api.Term{Var: "x y", Val: odd}, binds("x y", "a"), text("a"), true},
		{name("a"), binds("", 1), text("a"), true},
		{value(odd), binds("", 1, "s", 2), odd, true},
		{value(api.Const{N: 1}), nil, api.Const{N: 1}, true},
		{value(api.Const{N: -1, S: "a"}), nil, api.Const{N: -1, S: "a"}, true},
		{value(api.Const{Num: true, S: "a"}), nil, api.Const{Num: true, S: "a"}, true},
	} {
		if got, ok := match.Value(one.term, one.env); got != one.want || ok != one.ok {
			t.Errorf("%d: %+v, %+v: %+v, %t", i, one.term, one.env, got, ok)
		}
		holdValue(t, one.term, one.env)
	}
}

func TestUnify(t *testing.T) { // P11.1: written out; nil is nothing and false
	zero, nothing := api.Const{}, []api.Bind{}
	for i, one := range []struct {
		term api.Term
		c    api.Const
		env  []api.Bind
		want []api.Bind
	}{
		{number(5), num(5), nil, nothing},
		{number(5), num(5), binds("X", 1), binds("X", 1)},
		{number(5), num(6), binds("X", 1), nil},
		{number(5), text("5"), nil, nil},
		{number(0), zero, nil, nil},
		{name("a"), text("a"), binds("X", 1, "X", 2), binds("X", 1, "X", 2)},
		{name("a"), text("b"), nil, nil},
		{name("a"), text("A"), nil, nil},
		{name("5"), num(5), nil, nil},
		{name("a"), api.Const{N: 1, S: "a"}, nil, nil},
		{name("a"), api.Const{Num: true, S: "a"}, nil, nil},
		{number(5), api.Const{Num: true, N: 5, S: "5"}, nil, nil},
		{number(5), api.Const{N: 5}, nil, nil},
		{value(api.Const{N: 5}), api.Const{N: 5}, nil, nothing},
		{variable("X"), num(5), nil, binds("X", 5)},
		{variable("X"), text("a"), binds("Y", 1), binds("Y", 1, "X", "a")},
		{variable("X"), text("a"), binds("Y", "a", "Z", 2), binds("Y", "a", "Z", 2, "X", "a")},
		{variable("X"), zero, binds("Y", 1), binds("Y", 1, "X", zero)},
		{variable("X"), zero, binds("X", zero), binds("X", zero)},
		{variable("X"), num(1), binds("X", zero), nil},
		{variable("X"), zero, binds("X", 1), nil},
		{variable("X"), api.Const{Num: true, N: 1, S: "a"}, nil, binds("X", api.Const{Num: true, N: 1, S: "a"})},
		{variable("X"), num(5), binds("X", 5), binds("X", 5)},
		{variable("X"), num(5), binds("X", 4), nil},
		{variable("X"), num(5), binds("X", "5"), nil},
		{variable("X"), num(5), binds("X", 5, "X", 4), binds("X", 5, "X", 4)},
		{variable("X"), num(5), binds("X", 4, "X", 5), nil},
		{variable("X"), num(5), binds("Y", 5), binds("Y", 5, "X", 5)},
		{variable("X"), num(5), binds("", 4), binds("", 4, "X", 5)},
		{api.Term{}, zero, nil, nil},
		{api.Term{}, zero, binds("", zero), nil},
		{api.Term{}, num(5), binds("", 5), nil},
		{api.Term{}, text("a"), binds("X", 1), nil},
		{api.Term{Var: "X", Val: num(5)}, num(6), nil, binds("X", 6)},
		{api.Term{Var: "X", Val: num(5)}, num(5), binds("X", 6), nil},
		{api.Term{Var: "X", Val: num(5)}, num(6), binds("X", 6), binds("X", 6)},
	} {
		got, ok := match.Unify(one.term, one.c, one.env)
		if ok != (one.want != nil) || !slices.Equal(got, one.want) {
			t.Errorf("%d: %+v, %+v, %+v: %+v, %t", i, one.term, one.c, one.env, got, ok)
		}
		holdUnify(t, one.term, one.c, one.env)
	}
}

// allTerms are terms of each kind, also such as no program has.
func allTerms() []api.Term {
	return append(oddTerms(), variable("X"), variable("A"), variable("Y"), name("a"), name("b"), name("X"), name("1"), number(0), number(1), number(-1))
}

// allConsts are constants of each kind, also such as may not be.
func allConsts() []api.Const {
	return append(oddConsts(), text("a"), text("b"), text("X"), text("1"), num(0), num(1), num(-1), num(math.MinInt), num(math.MaxInt))
}

// allEnvs are bindings of none to three variables, with one Var several times and without a Var among them.
func allEnvs() [][]api.Bind {
	l := [][]api.Bind{nil, {}}
	for _, c := range []any{"a", "b", 1, 0, api.Const{}, api.Const{N: 1, S: "a"}} {
		l = append(l, binds("X", c), binds("A", c), binds("", c), binds("A", "a", "X", c), binds("X", c, "A", "b"), binds("X", c, "X", "a"), binds("Y", "b", "X", c, "Y", c), binds("x", c, " ", 1, "A", c))
	}
	return l
}

func TestEachTerm(t *testing.T) { // P11.1 of each kind of term, constant and bindings
	for _, env := range allEnvs() {
		for _, x := range allTerms() {
			holdValue(t, x, env)
			for _, c := range allConsts() {
				got, ok := holdUnify(t, x, c, env)
				if !ok {
					continue
				}
				if v, has := match.Value(x, got); !has || v != c || !slices.Equal(got[:len(env)], env) || len(got) > len(env)+1 {
					t.Errorf("%+v, %+v, %+v: %+v", x, c, env, got)
				}
			}
		}
	}
}

// taken is a literal (behind its home and a colon) with a fact and bindings, and what is bound then; nil: nothing and false.
type taken struct {
	text string
	f    api.Fact
	env  []api.Bind
	want []api.Bind
}

func takes(t *testing.T, l ...taken) {
	t.Helper()
	for _, one := range l {
		home, x := literal(t, one.text)
		got, ok := match.Literal(home, x, one.f, one.env)
		if ok != (one.want != nil) || !slices.Equal(got, one.want) {
			t.Errorf("%s, %+v, %+v: %+v, %t; want %+v", one.text, one.f, one.env, got, ok, one.want)
		}
		holdLiteral(t, home, x, one.f, one.env)
	}
}

func TestLiteralPlaces(t *testing.T) { // P11.2: with and without At, home a constant and a variable
	some := binds("Q", 1)
	takes(t,
		taken{"a: p()", said("a", "a", "p"), nil, []api.Bind{}},
		taken{"a: p()", said("a", "a", "p"), some, some},
		taken{"a: p()", said("b", "b", "p"), some, nil},
		taken{"A: p()", said("a", "a", "p"), some, binds("Q", 1, "A", "a")},
		taken{"A: p()", said("a", "a", "p"), binds("A", "a"), binds("A", "a")},
		taken{"A: p()", said("a", "a", "p"), binds("A", "b"), nil},
		taken{"A: p()", said("a", "a", "p"), binds("A", "b", "A", "a"), nil},
		taken{"A: p()", said("a", "a", "p"), binds("A", "a", "A", "b"), binds("A", "a", "A", "b")},
		taken{"5: p()", said("5", "5", "p"), nil, nil},
		taken{"A: p()", said("5", "5", "p"), binds("A", 5), nil},
		taken{"A: p()", said("5", "5", "p"), binds("A", "5"), binds("A", "5")},
		taken{"a: p() at b", said("b", "b", "p"), some, some},
		taken{"a: p() at b", said("a", "a", "p"), some, nil},
		taken{"A: p() at b", said("b", "b", "p"), some, some}, // home is not asked where there is an At
		taken{"A: p() at b", said("b", "b", "p"), binds("A", "c"), binds("A", "c")},
		taken{"A: p() at b", said("a", "a", "p"), binds("A", "a"), nil},
		taken{"A: p() at A", said("a", "a", "p"), some, binds("Q", 1, "A", "a")},
		taken{"A: p() at B", said("a", "a", "p"), some, binds("Q", 1, "B", "a")},
		taken{"A: p() at B", said("a", "a", "p"), binds("B", "a"), binds("B", "a")},
		taken{"A: p() at B", said("a", "a", "p"), binds("B", "c", "A", "a"), nil},
		taken{"5: p() at B", said("a", "a", "p"), nil, binds("B", "a")},
		taken{"a: p() at 5", said("5", "5", "p"), nil, nil},
		taken{"a: p() at B", said("5", "5", "p"), binds("B", 5), nil},
	)
}

func TestLiteralSayers(t *testing.T) { // P11.2: with and without By
	takes(t,
		taken{"a: p()", said("a", "b", "p"), nil, nil},
		taken{"A: p()", said("a", "b", "p"), nil, nil},
		taken{"A: p()", said("a", "b", "p"), binds("A", "a"), nil},
		taken{"A: p()", said("a", "b", "p"), binds("A", "b"), nil},
		taken{"a: p() at B", said("b", "a", "p"), nil, nil},
		taken{"a: p() at B", said("b", "b", "p"), nil, binds("B", "b")},
		taken{"a: b says p()", said("a", "b", "p"), nil, []api.Bind{}},
		taken{"a: b says p()", said("a", "a", "p"), nil, nil},
		taken{"a: a says p()", said("a", "a", "p"), nil, []api.Bind{}},
		taken{"A: b says p()", said("a", "b", "p"), nil, binds("A", "a")},
		taken{"A: B says p()", said("a", "b", "p"), nil, binds("A", "a", "B", "b")},
		taken{"A: B says p()", said("a", "a", "p"), nil, binds("A", "a", "B", "a")},
		taken{"A: A says p()", said("a", "a", "p"), nil, binds("A", "a")},
		taken{"A: A says p()", said("a", "b", "p"), nil, nil},
		taken{"A: B says p()", said("a", "b", "p"), binds("B", "b"), binds("B", "b", "A", "a")},
		taken{"A: B says p()", said("a", "b", "p"), binds("B", "c"), nil},
		taken{"A: B says p()", said("a", "b", "p"), binds("A", "b"), nil},
		taken{"A: B says p() at C", said("c", "b", "p"), nil, binds("C", "c", "B", "b")},
		taken{"A: B says p() at A", said("c", "b", "p"), nil, binds("A", "c", "B", "b")},
		taken{"A: B says p() at B", said("c", "b", "p"), nil, nil},
		taken{"A: B says p() at B", said("c", "c", "p"), nil, binds("B", "c")},
		taken{"A: b says p() at c", said("c", "b", "p"), nil, []api.Bind{}},
		taken{"A: b says p() at c", said("b", "c", "p"), nil, nil},
		taken{"A: 5 says p()", said("a", "5", "p"), nil, nil},
		taken{"A: B says p()", said("a", "5", "p"), binds("B", 5), nil},
		taken{"A: B says p()", said("a", "5", "p"), nil, binds("A", "a", "B", "5")},
	)
}

func TestLiteralArguments(t *testing.T) { // P11.2: one variable at several places, another Pred, more and fewer Args, the order
	takes(t,
		taken{"a: p()", said("a", "a", "q"), nil, nil},
		taken{"a: p()", said("a", "a", "p", 1), nil, nil},
		taken{"a: p(X)", said("a", "a", "p"), nil, nil},
		taken{"a: p(X)", said("a", "a", "q", 1), nil, nil},
		taken{"a: p(X)", said("a", "a", "p", 1), nil, binds("X", 1)},
		taken{"a: p(X)", said("a", "a", "p", 1, 1), nil, nil},
		taken{"a: p(X, X)", said("a", "a", "p", 1), nil, nil},
		taken{"a: p(X, X)", said("a", "a", "p", 1, 1), nil, binds("X", 1)},
		taken{"a: p(X, X)", said("a", "a", "p", 1, 2), nil, nil},
		taken{"a: p(X, X)", said("a", "a", "p", 1, "1"), nil, nil},
		taken{"a: p(X, Y)", said("a", "a", "p", 1, 2), nil, binds("X", 1, "Y", 2)},
		taken{"a: p(Y, X, Y, Z)", said("a", "a", "p", 2, 1, 2, 3), nil, binds("Y", 2, "X", 1, "Z", 3)},
		taken{"a: p(Y, X, Y, Z)", said("a", "a", "p", 2, 1, 3, 3), nil, nil},
		taken{"a: p(Y, X, Y, Z)", said("a", "a", "p", 2, 1, 2, 3), binds("Z", 3), binds("Z", 3, "Y", 2, "X", 1)},
		taken{"a: p(Y, X, Y, Z)", said("a", "a", "p", 2, 1, 2, 3), binds("Z", 4), nil},
		taken{"a: p(1, x)", said("a", "a", "p", 1, "x"), nil, []api.Bind{}},
		taken{"a: p(1, x)", said("a", "a", "p", 1, "y"), nil, nil},
		taken{"a: p(1, x)", said("a", "a", "p", "1", "x"), nil, nil},
		taken{"a: p(1, x)", said("a", "a", "p", 0, "x"), nil, nil},
		taken{"A: p(A)", said("a", "a", "p", "a"), nil, binds("A", "a")},
		taken{"A: p(A)", said("a", "a", "p", "b"), nil, nil},
		taken{"A: p(A)", said("5", "5", "p", 5), nil, nil},
		taken{"A: p(A) at B", said("b", "b", "p", 5), nil, binds("B", "b", "A", 5)},
		taken{"A: p(B) at B", said("b", "b", "p", "b"), nil, binds("B", "b")},
		taken{"A: p(B) at B", said("b", "b", "p", "a"), nil, nil},
		taken{"A: B says p(B)", said("a", "b", "p", "b"), nil, binds("A", "a", "B", "b")},
		taken{"A: B says p(B)", said("a", "b", "p", "a"), nil, nil},
		taken{"A: B says p(B)", said("a", "5", "p", 5), nil, nil},
		taken{"X: X says p(X, X) at X", said("a", "a", "p", "a", "a"), nil, binds("X", "a")},
		taken{"X: X says p(X, X) at X", said("a", "a", "p", "a", "b"), nil, nil},
		taken{"A: C says p(D, B, E) at B", said("b", "c", "p", "d", "b", 1), binds("F", 0), binds("F", 0, "B", "b", "C", "c", "D", "d", "E", 1)},
		taken{"A: C says p(D, B, E)", said("a", "c", "p", "d", "b", 1), binds("F", 0), binds("F", 0, "A", "a", "C", "c", "D", "d", "B", "b", "E", 1)},
		taken{"A: C says p(D, B, C)", said("a", "c", "p", "d", "b", "c"), binds("D", "d"), binds("D", "d", "A", "a", "C", "c", "B", "b")},
	)
}

func TestLiteralOfAnyShape(t *testing.T) { // P11.2: none and variables with a Val in each place, facts without texts
	zero := api.Const{}
	f := said("a", "b", "p", 1)
	whole := api.Literal{By: name("b"), Pred: "p", Args: terms(number(1)), At: name("a")}
	holds := func(home api.Term, l api.Literal, f api.Fact, env, want []api.Bind) {
		t.Helper()
		got, ok := match.Literal(home, l, f, env)
		if ok != (want != nil) || !slices.Equal(got, want) {
			t.Errorf("%+v, %+v, %+v, %+v: %+v, %t", home, l, f, env, got, ok)
		}
		holdLiteral(t, home, l, f, env)
	}
	holds(api.Term{}, whole, f, nil, []api.Bind{})
	l := whole
	l.At = api.Term{}
	holds(api.Term{}, l, f, nil, nil)
	holds(api.Term{}, l, said("", "b", "p", 1), nil, nil)
	holds(variable("A"), l, said("", "b", "p", 1), nil, binds("A", zero))
	holds(variable("A"), l, said("", "b", "p", 1), binds("A", zero), binds("A", zero))
	holds(api.Term{Var: "A", Val: text("c")}, l, f, nil, binds("A", "a"))
	l = whole
	l.By = api.Term{}
	holds(name("c"), l, f, nil, nil)
	holds(name("c"), l, said("a", "a", "p", 1), nil, []api.Bind{})
	holds(name("c"), l, said("a", "", "p", 1), nil, nil)
	l.By = api.Term{Var: "B", Val: text("c")}
	holds(name("c"), l, f, nil, binds("B", "b"))
	l.By = value(api.Const{N: 1, S: "b"})
	holds(name("c"), l, f, nil, nil)
	l = whole
	l.Args = terms(api.Term{})
	holds(name("c"), l, f, nil, nil)
	holds(name("c"), l, said("a", "b", "p", zero), nil, nil)
	holds(name("c"), l, said("a", "b", "p", zero), binds("", zero), nil)
	l.Args = terms(api.Term{Var: "X", Val: num(2)})
	holds(name("c"), l, f, nil, binds("X", 1))
	l.Args = terms(value(api.Const{Num: true, N: 1, S: "s"}))
	holds(name("c"), l, f, nil, nil)
	holds(name("c"), l, said("a", "b", "p", api.Const{Num: true, N: 1, S: "s"}), nil, []api.Bind{})
	holds(variable("A"), api.Literal{}, api.Fact{}, nil, binds("A", zero))
	holds(variable("A"), api.Literal{}, said("a", "a", ""), nil, binds("A", "a"))
	holds(api.Term{}, api.Literal{}, api.Fact{}, nil, nil)
}

// places are terms where a principal's stand.
func places() []api.Term {
	return []api.Term{{}, name("a"), name("b"), variable("A"), variable("X"), number(1), {Var: "A", Val: text("b")}, value(api.Const{N: 1, S: "a"})}
}

// fewEnvs are some bindings of A and X.
func fewEnvs() [][]api.Bind {
	return [][]api.Bind{nil, binds("Q", 1), binds("A", "a"), binds("X", "b"), binds("X", 1), binds("A", "b", "X", "a"), binds("A", 1, "A", "a"), binds("A", "a", "X", api.Const{})}
}

func TestEachLiteral(t *testing.T) { // P11.2: each kind of home, At, By and argument, with each fact and bindings
	count := map[int]int{}
	for _, home := range places() {
		for _, at := range places() {
			for _, by := range places() {
				for _, arg := range []api.Term{{}, variable("X"), variable("A"), variable("Y"), name("a"), number(1)} {
					for _, env := range fewEnvs() {
						for _, f := range []api.Fact{said("a", "a", "p", "a"), said("a", "b", "p", 1), said("b", "b", "p", "a"), said("b", "a", "p", "b"), said("", "", "p", api.Const{}), said("1", "a", "p", "1")} {
							got, ok := holdLiteral(t, home, api.Literal{By: by, Pred: "p", Args: terms(arg), At: at}, f, env)
							if ok {
								count[len(got)-len(env)]++
							}
						}
					}
				}
			}
		}
	}
	for n := range 4 {
		if count[n] < 10 {
			t.Error("bound", n, "only so often:", count[n])
		}
	}
}

func TestHead(t *testing.T) { // P11.3: written out
	zero := api.Const{}
	all := binds("A", "a", "B", "b", "X", 1, "Y", "y", "N", 5)
	for _, one := range []struct {
		text string
		env  []api.Bind
		want api.Fact
		ok   bool
	}{
		{"a: p() :- q().", nil, said("a", "a", "p"), true},
		{"a: p() to b :- q().", nil, said("b", "a", "p"), true},
		{"A: p() :- q().", all, said("a", "a", "p"), true},
		{"A: p() to B :- q().", all, said("b", "a", "p"), true},
		{"A: p() to A :- q().", all, said("a", "a", "p"), true},
		{"a: p() to B :- q().", all, said("b", "a", "p"), true},
		{"A: p() to b :- q().", all, said("b", "a", "p"), true},
		{"A: p(X, Y, 2, z) :- q().", all, said("a", "a", "p", 1, "y", 2, "z"), true},
		{"A: p(X, X, A, B) to B :- q().", all, said("b", "a", "p", 1, 1, "a", "b"), true},
		{"A: p(X) :- q().", binds("X", 1, "A", "a", "X", 2, "A", "b"), said("a", "a", "p", 1), true},
		{"A: p(X) :- q(Z).", all, said("a", "a", "p", 1), true}, // what the body has plays no part
		{"a: p(X) :- q().", binds("X", zero), said("a", "a", "p", zero), true},
		{"A: p() to B :- q().", binds("A", zero, "B", zero), said("", "", "p"), true},
		{"C: p() :- q().", all, api.Fact{}, false},
		{"C: p() to b :- q().", all, api.Fact{}, false},
		{"a: p() to C :- q().", all, api.Fact{}, false},
		{"a: p(Z) :- q(Z).", all, api.Fact{}, false},
		{"a: p(X, Y, Z, X) :- q().", all, api.Fact{}, false},
		{"a: p(Z, X, Y) :- q().", all, api.Fact{}, false},
		{"a: p(X) :- q().", nil, api.Fact{}, false},
		{"5: p() :- q().", nil, api.Fact{}, false},
		{"5: p() to a :- q().", nil, api.Fact{}, false},
		{"a: p() to 5 :- q().", nil, api.Fact{}, false},
		{"a: p() to 0 :- q().", nil, api.Fact{}, false},
		{"N: p() :- q().", all, api.Fact{}, false},
		{"N: p() to A :- q().", all, api.Fact{}, false},
		{"A: p() to N :- q().", all, api.Fact{}, false},
		{"A: p() to X :- q().", binds("A", "a", "X", 0), api.Fact{}, false},
		{"A: p() :- q().", binds("A", 1, "A", "a"), api.Fact{}, false},
	} {
		r := rule(t, one.text)
		got, ok := match.Head(r, one.env)
		if ok != one.ok || !sameFact(got, one.want) {
			t.Errorf("%s, %+v: %+v, %t", one.text, one.env, got, ok)
		}
		holdHead(t, r, one.env)
	}
}

// noText are constants that are none of a text: Num is true, or N is not 0.
func noText() (l []api.Const) {
	for _, s := range []string{"", "a", "5"} {
		for _, n := range []int{0, 1, -1, math.MinInt, math.MaxInt} {
			l = append(l, api.Const{Num: true, N: n, S: s})
			if n != 0 {
				l = append(l, api.Const{N: n, S: s})
			}
		}
	}
	return l
}

func TestNoneOfAText(t *testing.T) { // P11.3: as a Home, a To, an At, a By, as a constant and bound; as an argument it may be
	for _, c := range noText() {
		for _, x := range []api.Term{value(c), variable("V")} {
			env := binds("Q", 1, "V", c)
			for _, r := range []api.Rule{{Home: x, Pred: "p"}, {Home: x, Pred: "p", To: name("b")}, {Home: name("a"), Pred: "p", To: x}, {Home: x, Pred: "p", To: x}} {
				if f, ok := match.Head(r, env); ok || !sameFact(f, api.Fact{}) {
					t.Errorf("%+v, %+v: %+v", r, env, f)
				}
				holdHead(t, r, env)
			}
			for _, l := range []api.Literal{{At: x}, {At: x, By: name("b")}, {At: name("a"), By: x}, {By: x}, {At: x, By: x}} {
				r := api.Rule{Home: name("a"), Body: []api.Literal{{Pred: "q"}, l, {Pred: "r"}}}
				if b, ok := match.Body(r, env); ok || len(b) != 0 {
					t.Errorf("%+v, %+v: %+v", r, env, b)
				}
				holdBody(t, r, env)
			}
			r := api.Rule{Home: name("a"), Pred: "p", Args: terms(x), Body: []api.Literal{{Pred: "q", Args: terms(x, x)}}}
			if f, ok := match.Head(r, env); !ok || !sameFact(f, said("a", "a", "p", c)) {
				t.Errorf("%+v, %+v: %+v, %t", r, env, f, ok)
			}
			if b, ok := match.Body(r, env); !ok || !sameFacts(b, []api.Fact{said("a", "a", "q", c, c)}) {
				t.Errorf("%+v, %+v: %+v, %t", r, env, b, ok)
			}
		}
	}
}

func TestNoneInARule(t *testing.T) { // P11.3: none as a Home, an argument; a variable with a Val
	for _, env := range [][]api.Bind{nil, binds("", "a"), binds("X", "x")} {
		for _, r := range []api.Rule{{}, {Pred: "p", To: name("b")}, {Home: name("a"), Args: terms(api.Term{})}, {Home: name("a"), Args: terms(number(1), api.Term{}, number(2))}, {Home: name("a"), To: name("b"), Args: terms(api.Term{})}} {
			if f, ok := match.Head(r, env); ok || !sameFact(f, api.Fact{}) {
				t.Errorf("%+v, %+v: %+v", r, env, f)
			}
		}
		for _, l := range []api.Literal{{}, {By: name("b")}, {At: name("a"), Args: terms(api.Term{})}} {
			if b, ok := match.Body(api.Rule{Body: []api.Literal{l}}, env); ok || len(b) != 0 {
				t.Errorf("%+v, %+v: %+v", l, env, b)
			}
		}
	}
	odd := api.Term{Var: "X", Val: text("v")}
	r := api.Rule{Home: odd, Pred: "p", Args: terms(odd), To: odd, Body: []api.Literal{{By: odd, Pred: "q", Args: terms(odd), At: odd}}}
	if f, ok := match.Head(r, binds("X", "x")); !ok || !sameFact(f, said("x", "x", "p", "x")) {
		t.Errorf("%+v, %t", f, ok)
	}
	if b, ok := match.Body(r, binds("X", "x")); !ok || !sameFacts(b, []api.Fact{said("x", "x", "q", "x")}) {
		t.Errorf("%+v, %t", b, ok)
	}
	if _, ok := match.Head(r, nil); ok {
		t.Error("a variable with a Val is not bound by that")
	}
	if _, ok := match.Body(r, nil); ok {
		t.Error("a variable with a Val is not bound by that")
	}
}

func TestBody(t *testing.T) { // P11.3: written out; nil is nothing and false
	zero := api.Const{}
	all := binds("A", "a", "B", "b", "C", "c", "X", 1, "Y", "y", "N", 5)
	for _, one := range []struct {
		text string
		env  []api.Bind
		want []api.Fact
	}{
		{"a: p() :- q().", nil, []api.Fact{said("a", "a", "q")}},
		{"A: p() :- q().", all, []api.Fact{said("a", "a", "q")}},
		{"A: p() :- q() at B.", all, []api.Fact{said("b", "b", "q")}},
		{"A: p() :- q() at b.", nil, []api.Fact{said("b", "b", "q")}}, // the Home is not asked where there is an At
		{"5: p() :- q() at b.", nil, []api.Fact{said("b", "b", "q")}},
		{"A: p() :- B says q().", all, []api.Fact{said("a", "b", "q")}},
		{"A: p() :- B says q() at C.", all, []api.Fact{said("c", "b", "q")}},
		{"A: p() :- b says q() at c.", nil, []api.Fact{said("c", "b", "q")}},
		{"A: p() :- C says q() at C.", all, []api.Fact{said("c", "c", "q")}},
		{"Z: p(Z) to N :- q(X, Y, 2, z) at B.", all, []api.Fact{said("b", "b", "q", 1, "y", 2, "z")}}, // what the head has plays no part
		{"A: p() :- q(X, X, A, N).", all, []api.Fact{said("a", "a", "q", 1, 1, "a", 5)}},
		{"A: p() :- q(X), B says r(Y) at C, s(1) at B, C says q(x).", all, []api.Fact{said("a", "a", "q", 1), said("c", "b", "r", "y"), said("b", "b", "s", 1), said("a", "c", "q", "x")}},
		{"A: p() :- q(), q(), r(), q().", all, []api.Fact{said("a", "a", "q"), said("a", "a", "q"), said("a", "a", "r"), said("a", "a", "q")}},
		{"A: p() :- q(X).", binds("A", "a", "A", "b", "X", 1, "X", 2), []api.Fact{said("a", "a", "q", 1)}},
		{"A: p() :- q(X).", binds("A", zero, "X", zero), []api.Fact{said("", "", "q", zero)}},
		{"Z: p() :- q().", all, nil},
		{"Z: p() :- B says q().", all, nil},
		{"Z: p() :- q() at B, r().", all, nil},
		{"A: p() :- q() at Z.", all, nil},
		{"A: p() :- B says q() at Z.", all, nil},
		{"A: p() :- Z says q().", all, nil},
		{"A: p() :- Z says q() at C.", all, nil},
		{"A: p() :- q(Z).", all, nil},
		{"A: p() :- q(X, Y, Z).", all, nil},
		{"A: p() :- q(Z, X, Y).", all, nil},
		{"A: p() :- q(X), r(Z).", all, nil},
		{"A: p() :- q(Z), r(X).", all, nil},
		{"A: p() :- q(), r(), s(), t() at Z.", all, nil},
		{"5: p() :- q().", nil, nil},
		{"5: p() :- a says q().", nil, nil},
		{"N: p() :- q().", all, nil},
		{"A: p() :- q() at N.", all, nil},
		{"A: p() :- q() at 5.", all, nil},
		{"A: p() :- N says q().", all, nil},
		{"A: p() :- 0 says q() at B.", all, nil},
		{"A: p() :- B says q() at N.", all, nil},
	} {
		r := rule(t, one.text)
		got, ok := match.Body(r, one.env)
		if ok != (one.want != nil) || !sameFacts(got, one.want) {
			t.Errorf("%s, %+v: %+v, %t", one.text, one.env, got, ok)
		}
		holdBody(t, r, one.env)
	}
}

func TestBodyWithoutLiterals(t *testing.T) { // P11.3: whatever the head is
	for _, r := range []api.Rule{{}, {Home: variable("A"), Pred: "p"}, {Home: number(5), Args: terms(variable("X")), To: variable("Y")}, {Home: name("a"), Body: []api.Literal{}}} {
		for _, env := range allEnvs() {
			if got, ok := match.Body(r, env); !ok || len(got) != 0 {
				t.Errorf("%+v, %+v: %+v, %t", r, env, got, ok)
			}
		}
	}
}

func TestEachHeadAndBody(t *testing.T) { // P11.3: each kind of Home, To, At, By and argument, with each bindings
	count := map[bool]int{}
	for _, home := range places() {
		for _, to := range places() {
			for _, by := range places() {
				for _, arg := range allTerms() {
					for _, env := range append(fewEnvs(), binds("A", "a", "X", "x", "Y", 1), binds("A", "", "X", "", "Y", api.Const{})) {
						r := api.Rule{Home: home, Pred: "p", Args: terms(arg), To: to, Body: []api.Literal{{By: by, Pred: "q", Args: terms(arg), At: to}, {By: to, Pred: "r", At: by}}}
						_, head := holdHead(t, r, env)
						_, body := holdBody(t, r, env)
						count[head]++
						count[body]++
					}
				}
			}
		}
	}
	if count[false] < 1000 || count[true] < 1000 {
		t.Error("only so many:", count)
	}
}

func TestFollows(t *testing.T) { // P11.4: written out
	for _, one := range []struct {
		text string
		head api.Fact
		body []api.Fact
		want bool
	}{
		{"A: p(X) :- q(X).", said("a", "a", "p", 1), []api.Fact{said("a", "a", "q", 1)}, true},
		{"A: p(X) :- q(X).", said("a", "a", "p", 2), []api.Fact{said("a", "a", "q", 1)}, false},
		{"A: p(X) :- q(X).", said("b", "b", "p", 1), []api.Fact{said("a", "a", "q", 1)}, false},
		{"A: p(X) :- q(X).", said("b", "a", "p", 1), []api.Fact{said("a", "a", "q", 1)}, false},
		{"A: p(X) :- q(X).", said("a", "a", "p", 1), []api.Fact{said("a", "b", "q", 1)}, false},
		{"A: p(X) :- q(X).", said("a", "a", "p", 1), []api.Fact{said("a", "a", "r", 1)}, false},
		{"A: p(X) :- q(X).", said("a", "a", "p", "1"), []api.Fact{said("a", "a", "q", 1)}, false},
		{"a: p(X) :- q(X).", said("a", "a", "p", 1), []api.Fact{said("a", "a", "q", 1)}, true},
		{"a: p(X) :- q(X).", said("b", "b", "p", 1), []api.Fact{said("b", "b", "q", 1)}, false},
		{"5: p() :- q().", said("5", "5", "p"), []api.Fact{said("5", "5", "q")}, false},
		{"A: p(X) to B :- q(X, B).", said("b", "a", "p", 1), []api.Fact{said("a", "a", "q", 1, "b")}, true},
		{"A: p(X) to B :- q(X, B).", said("c", "a", "p", 1), []api.Fact{said("a", "a", "q", 1, "b")}, false},
		{"A: p(X) to B :- q(X, B).", said("5", "a", "p", 1), []api.Fact{said("a", "a", "q", 1, 5)}, false},
		{"A: p(X) to B :- q(X, B).", said("a", "a", "p", 1), []api.Fact{said("a", "a", "q", 1, "a")}, true},
		{"A: ok(X) :- B says p(X), trusts(B).", said("a", "a", "ok", 2), []api.Fact{said("a", "b", "p", 2), said("a", "a", "trusts", "b")}, true},
		{"A: ok(X) :- B says p(X), trusts(B).", said("a", "a", "ok", 2), []api.Fact{said("a", "b", "p", 2), said("a", "a", "trusts", "c")}, false},
		{"A: ok(X) :- B says p(X), trusts(B).", said("a", "a", "ok", 2), []api.Fact{said("a", "a", "trusts", "b"), said("a", "b", "p", 2)}, false},
		{"A: ok(X) :- B says p(X), trusts(B).", said("a", "a", "ok", 2), []api.Fact{said("a", "b", "p", 2), said("c", "c", "trusts", "b")}, false},
		{"A: p(X) :- q(B), r(X) at B.", said("a", "a", "p", 7), []api.Fact{said("a", "a", "q", "b"), said("b", "b", "r", 7)}, true},
		{"A: p(X) :- q(B), r(X) at B.", said("a", "a", "p", 7), []api.Fact{said("a", "a", "q", "c"), said("b", "b", "r", 7)}, false},
		{"A: p(X) :- r(X) at B.", said("a", "a", "p", 7), []api.Fact{said("b", "b", "r", 7)}, true}, // a program may not have it, but it follows
		{"A: p(X) :- p(X).", said("a", "a", "p", 1), []api.Fact{said("a", "a", "p", 1)}, true},
		{"a: t(X, Z) :- t(X, Y), e(Y, Z).", said("a", "a", "t", 1, 1), []api.Fact{said("a", "a", "t", 1, 2), said("a", "a", "e", 2, 1)}, true},
		{"a: t(X, Z) :- t(X, Y), e(Y, Z).", said("a", "a", "t", 1, 1), []api.Fact{said("a", "a", "t", 1, 2), said("a", "a", "e", 3, 1)}, false},
		{"A: p(X) :- q(Y).", said("a", "a", "p", 1), []api.Fact{said("a", "a", "q", 1)}, false}, // nothing binds X
		{"A: p() to B :- q().", said("b", "a", "p"), []api.Fact{said("a", "a", "q")}, false},
		{"A: p(A) to A :- b says q() at c.", said("a", "a", "p", "a"), []api.Fact{said("c", "b", "q")}, true},
	} {
		r, d := rule(t, one.text), api.Deriv{Head: one.head, Body: one.body}
		if got := match.Follows(r, d); got != one.want {
			t.Errorf("%s, %+v: %t", one.text, d, got)
		}
		holdFollows(t, r, d)
	}
}

func TestFollowsWithoutLiterals(t *testing.T) { // P11.4: the Home and what is constant are all that there is
	r := api.Rule{Home: variable("A"), Pred: "p", Args: terms(variable("A"), number(1))}
	if !match.Follows(r, api.Deriv{Head: said("a", "a", "p", "a", 1)}) || !match.Follows(r, api.Deriv{Head: said("a", "a", "p", "a", 1), Body: []api.Fact{}}) {
		t.Error("it follows")
	}
	if match.Follows(r, api.Deriv{Head: said("a", "a", "p", "b", 1)}) || match.Follows(r, api.Deriv{Head: said("b", "a", "p", "a", 1)}) || match.Follows(r, api.Deriv{Head: said("a", "a", "p", "a", 1), Body: make([]api.Fact, 1)}) {
		t.Error("it does not follow")
	}
	if !match.Follows(api.Rule{Home: variable("A")}, api.Deriv{}) || !match.Follows(api.Rule{Home: variable("A"), Args: terms()}, api.Deriv{Head: api.Fact{Args: []api.Const{}}}) {
		t.Error("a head without texts and arguments follows, its list empty or nil")
	}
	if match.Follows(api.Rule{}, api.Deriv{}) || match.Follows(api.Rule{}, api.Deriv{Head: said("a", "a", "")}) {
		t.Error("a rule without a Home has no heads")
	}
}

// example is a rule with a derivation by it that has all that there may be.
func example(t *testing.T) (api.Rule, api.Deriv) {
	r := rule(t, "A: p(X, Y, A, 5) to B :- q(X, B), C says r(Y, C) at B, s(C, x), B says t(X).")
	d := api.Deriv{
		Rule: 3,
		Head: said("b", "a", "p", 1, "y", "a", 5),
		Body: []api.Fact{said("a", "a", "q", 1, "b"), said("b", "c", "r", "y", "c"), said("a", "a", "s", "c", "x"), said("a", "b", "t", 1)},
	}
	if !holdFollows(t, r, d) {
		t.Fatal("it follows")
	}
	return r, d
}

func TestFollowsJustAsMany(t *testing.T) { // P11.4: a fact more, a fact fewer, facts exchanged
	r, d := example(t)
	no := func(body []api.Fact) {
		t.Helper()
		if holdFollows(t, r, api.Deriv{Rule: d.Rule, Head: d.Head, Body: body}) {
			t.Errorf("%+v", body)
		}
	}
	no(nil)
	for i := range d.Body {
		no(slices.Delete(slices.Clone(d.Body), i, i+1))
		no(slices.Insert(slices.Clone(d.Body), i, d.Body[i]))
		no(slices.Replace(slices.Clone(d.Body), i, i+1, api.Fact{}))
		for j := range i {
			body := slices.Clone(d.Body)
			body[i], body[j] = body[j], body[i]
			no(body)
		}
		for _, f := range others(d.Body[i]) {
			body := slices.Clone(d.Body)
			body[i] = f
			no(body)
		}
	}
	no(append(slices.Clone(d.Body), d.Body[3]))
	no(append(slices.Clone(d.Body), d.Head))
	no(append(slices.Clone(d.Body), api.Fact{}))
	if !match.Follows(r, d) {
		t.Error("it follows")
	}
}

// others are facts that differ from one in one of its fields.
func others(f api.Fact) (l []api.Fact) {
	change := func(do func(*api.Fact)) {
		g := copiedFact(f)
		do(&g)
		l = append(l, g)
	}
	for _, s := range []string{"", "z", "\x00"} {
		change(func(g *api.Fact) { g.At += s + "z" })
		change(func(g *api.Fact) { g.At = s })
		change(func(g *api.Fact) { g.By = s })
		change(func(g *api.Fact) { g.Pred = s })
	}
	for i := range f.Args {
		for _, c := range []api.Const{{}, num(77), text("zz"), {Num: !f.Args[i].Num, N: f.Args[i].N, S: f.Args[i].S}, {Num: f.Args[i].Num, N: f.Args[i].N + 1, S: f.Args[i].S}, {Num: f.Args[i].Num, N: f.Args[i].N, S: f.Args[i].S + "z"}} {
			change(func(g *api.Fact) { g.Args[i] = c })
		}
		change(func(g *api.Fact) { g.Args = slices.Delete(g.Args, i, i+1) })
	}
	change(func(g *api.Fact) { g.Args = append(g.Args, num(1)) })
	change(func(g *api.Fact) { g.Args = append(g.Args, api.Const{}) })
	return l
}

func TestFollowsAnotherHead(t *testing.T) { // P11.4: in each of its fields
	r, d := example(t)
	for _, f := range append(others(d.Head), api.Fact{}) {
		if holdFollows(t, r, api.Deriv{Rule: d.Rule, Head: f, Body: d.Body}) {
			t.Errorf("%+v", f)
		}
	}
	for _, change := range []func(*api.Rule){
		func(r *api.Rule) { r.Args[0] = variable("Q") }, // nothing binds it
		func(r *api.Rule) { r.To = variable("Q") },
		func(r *api.Rule) { r.Args[3] = api.Term{} },
		func(r *api.Rule) { r.To = api.Term{} },
		func(r *api.Rule) { r.Home = api.Term{} },
		func(r *api.Rule) { r.Home = variable("Q") },
		func(r *api.Rule) { r.Home = name("b") },
		func(r *api.Rule) { r.Pred = "q" },
		func(r *api.Rule) { r.Args = r.Args[1:] },
		func(r *api.Rule) { r.Body[1].By = variable("A") },
		func(r *api.Rule) { r.Body[1].By = api.Term{} },
		func(r *api.Rule) { r.Body[1].At = api.Term{} },
		func(r *api.Rule) { r.Body[2].Pred = "q" },
	} {
		other := copiedRule(r)
		change(&other)
		if holdFollows(t, other, d) {
			t.Errorf("%+v", other)
		}
	}
	same := copiedRule(r)
	same.Home = name("a")
	same.Args[2] = name("a")
	if !holdFollows(t, same, d) {
		t.Error("with a constant in place of a variable it follows")
	}
}

func TestFollowsWhateverTheNumber(t *testing.T) { // P11.4: d.Rule plays no part
	r, d := example(t)
	wrong := d
	wrong.Head = said("b", "b", "p")
	for _, n := range []int{0, 1, 3, 15, 16, 100, -1, math.MinInt, math.MaxInt} {
		d.Rule, wrong.Rule = n, n
		if !match.Follows(r, d) || match.Follows(r, wrong) {
			t.Error("the number", n)
		}
	}
}

// pairs are the terms of a literal and what they must be, At, By and Args one behind the other.
func pairs(home api.Term, l api.Literal, f api.Fact) (ts []api.Term, cs []api.Const) {
	ts, cs = append(ts, l.At), append(cs, text(f.At))
	if none(l.At) {
		ts[0] = home
	}
	if !none(l.By) {
		ts, cs = append(ts, l.By), append(cs, text(f.By))
	}
	return append(ts, l.Args...), append(cs, f.Args...)
}

// fits tells whether a literal is a fact by some bindings.
func fits(home api.Term, l api.Literal, f api.Fact, env []api.Bind) bool {
	if l.Pred != f.Pred || len(l.Args) != len(f.Args) || none(l.By) && f.By != f.At {
		return false
	}
	ts, cs := pairs(home, l, f)
	for i, x := range ts {
		if c, ok := wantValue(x, env); !ok || c != cs[i] {
			return false
		}
	}
	return true
}

func TestLiteralTellsWhatFits(t *testing.T) { // P11.2 and P11.5: true just where a literal can be the fact; what is told begins with what was bound, has nothing twice and nothing idle, and tells itself again
	count := map[bool]int{}
	die := rand.New(rand.NewSource(11))
	for i := range 200000 {
		m := maker{die, 8 * (i % 3)}
		home, l, env := m.place(), m.literal(), m.env()
		f := m.near(home, l, env)
		got, ok := holdLiteral(t, home, l, f, env)
		count[ok]++
		if !ok {
			wide := env // were there bindings by which it fits, each variable had what it must be where it stands first
			if ts, cs := pairs(home, l, f); len(ts) == len(cs) {
				for i, x := range ts {
					wide = append(wide[:len(wide):len(wide)], api.Bind{Var: x.Var, Val: cs[i]})
				}
			}
			if fits(home, l, f, wide) {
				t.Errorf("%+v, %+v, %+v, %+v: it fits by %+v", home, l, f, env, wide)
			}
			continue
		}
		if len(got) < len(env) || !slices.Equal(got[:len(env)], env) || !fits(home, l, f, got) {
			t.Fatalf("%+v, %+v, %+v, %+v: %+v", home, l, f, env, got)
		}
		for i := len(env); i < len(got); i++ {
			if fits(home, l, f, slices.Delete(slices.Clone(got), i, i+1)) || slices.ContainsFunc(got[:i], func(b api.Bind) bool { return b.Var == got[i].Var }) {
				t.Errorf("%+v, %+v, %+v, %+v: %+v", home, l, f, env, got)
			}
		}
		if again, ok := match.Literal(home, l, f, got); !ok || !slices.Equal(again, got) {
			t.Errorf("%+v, %+v, %+v: %+v, then %+v, %t", home, l, f, got, again, ok)
		}
	}
	if count[false] < 50000 || count[true] < 50000 {
		t.Error("only so many:", count)
	}
}

func TestHeadFollowsFromBody(t *testing.T) { // P11.5
	follows, outside := 0, 0
	die := rand.New(rand.NewSource(12))
	for i := range 200000 {
		m := maker{die, 5 * (i % 4)}
		r, env := m.rule(), m.whole()
		head, ok := holdHead(t, r, env)
		body, has := holdBody(t, r, env)
		if !ok || !has {
			continue
		}
		d := api.Deriv{Rule: m.Int(), Head: head, Body: body}
		if !inRange(r) {
			outside++
			if match.Follows(r, d) {
				t.Errorf("%+v, %+v: it follows", r, d)
			}
			continue
		}
		follows++
		if !match.Follows(r, d) {
			t.Errorf("%+v, %+v, %+v: it does not follow", r, env, d)
		}
	}
	if follows < 20000 || outside < 2000 {
		t.Error("only so many:", follows, outside)
	}
}

func TestFollowsByItsWords(t *testing.T) { // P11.4: derivations with one or no change
	count := map[bool]int{}
	die := rand.New(rand.NewSource(13))
	for i := range 100000 {
		m := maker{die, 4 * (i % 3)}
		r, env := m.rule(), m.whole()
		head, ok := wantHead(r, env)
		body, has := wantBody(r, env)
		if !ok || !has {
			head, body = m.fact(), nil
			for range r.Body {
				body = append(body, m.fact())
			}
		}
		switch m.Intn(6) {
		case 0:
			head = pick(m, others(head))
		case 1:
			if len(body) > 0 {
				k := m.Intn(len(body))
				body[k] = pick(m, others(body[k]))
			}
		case 2:
			body = append(body, m.fact())
		case 3:
			m.Shuffle(len(body), func(i, j int) { body[i], body[j] = body[j], body[i] })
		}
		count[holdFollows(t, r, api.Deriv{Rule: m.Int(), Head: head, Body: body})]++
	}
	if count[false] < 10000 || count[true] < 10000 {
		t.Error("only so many:", count)
	}
}

// hardTexts are texts of any kind.
func hardTexts() []string {
	return []string{"", "a", "A", "\x00", "\xff", "\xff\xfe", "é", "~ask0.1", "says", `"`, strings.Repeat("x", 1<<16)}
}

func TestNoPanic(t *testing.T) { // R1, R5: whatever the fields hold
	for _, s := range hardTexts() {
		for _, n := range []int{0, 1, -1, math.MinInt, math.MaxInt} {
			for _, is := range []bool{false, true} {
				c := api.Const{Num: is, N: n, S: s}
				for _, x := range []api.Term{{}, variable(s), value(c), {Var: s, Val: c}} {
					for _, env := range [][]api.Bind{nil, {{}}, {{Var: s}}, {{Var: s, Val: c}}, {{Val: c}, {Var: s, Val: num(n)}}, binds("A", "a", "A", c)} {
						for _, f := range []api.Fact{{}, {At: s, By: s, Pred: s}, {At: s, By: s, Pred: s, Args: []api.Const{c, c}}, {At: s, By: "b", Pred: s, Args: []api.Const{c}}} {
							hold(t, x, c, s, f, env, n)
						}
					}
				}
			}
		}
	}
}

// hold holds every call, of one term wherever one stands, against its words.
func hold(t *testing.T, x api.Term, c api.Const, pred string, f api.Fact, env []api.Bind, n int) {
	t.Helper()
	holdValue(t, x, env)
	holdUnify(t, x, c, env)
	var args []api.Term
	for range f.Args {
		args = append(args, x)
	}
	for _, l := range []api.Literal{{}, {By: x, Pred: pred, Args: args, At: x}, {Pred: pred, Args: args}, {By: x, Pred: pred}, {At: x, Pred: pred, Args: args}} {
		holdLiteral(t, x, l, f, env)
		holdLiteral(t, api.Term{}, l, f, env)
		for _, r := range []api.Rule{{}, {Home: x, Pred: pred, Args: args, To: x, Body: []api.Literal{l, l}}, {Home: x, Pred: pred, Args: args, Body: []api.Literal{l}}, {Body: []api.Literal{{}, l}}, {Home: x}} {
			holdHead(t, r, env)
			holdBody(t, r, env)
			holdFollows(t, r, api.Deriv{Rule: n, Head: f, Body: []api.Fact{f, f}})
			holdFollows(t, r, api.Deriv{Rule: n, Head: f, Body: []api.Fact{f}})
			holdFollows(t, r, api.Deriv{})
		}
	}
}

func TestVeryMany(t *testing.T) { // R1: it ends, however many arguments, literals and bindings there are
	const many = 3000
	var l api.Literal
	f := said("a", "a", "")
	var want []api.Bind
	for i := range many {
		v := variable("V" + strconv.Itoa(i))
		l.Args = append(l.Args, v, v)
		f.Args = append(f.Args, num(i), num(i))
		want = append(want, api.Bind{Var: v.Var, Val: num(i)})
	}
	env, ok := match.Literal(name("a"), l, f, nil)
	if !ok || !slices.Equal(env, want) {
		t.Fatal(len(env), ok)
	}
	r := api.Rule{Home: name("a"), Args: l.Args, Body: []api.Literal{l, l}}
	head, ok := match.Head(r, env)
	if !ok || !sameFact(head, f) {
		t.Error(len(head.Args), ok)
	}
	body, ok := match.Body(r, env)
	if !ok || !sameFacts(body, []api.Fact{f, f}) {
		t.Error(len(body), ok)
	}
	if !match.Follows(r, api.Deriv{Head: head, Body: body}) {
		t.Error("it follows")
	}
	f.Args[len(f.Args)-1] = num(0)
	if _, ok := match.Literal(name("a"), l, f, nil); ok || match.Follows(r, api.Deriv{Head: f, Body: body}) || match.Follows(r, api.Deriv{Head: head, Body: []api.Fact{body[0], f}}) {
		t.Error("it does not follow")
	}
	long := api.Rule{Home: variable("A"), Body: make([]api.Literal, 1<<16)}
	facts, ok := match.Body(long, binds("A", "a"))
	if !ok || len(facts) != len(long.Body) || !match.Follows(long, api.Deriv{Head: said("a", "a", ""), Body: facts}) {
		t.Error(len(facts), ok)
	}
}

// spared is a list with room behind it, in which something stands.
func spared[T any](l []T, spare ...T) []T { return append(slices.Clone(l), spare...)[:len(l)] }

func TestSpareRoom(t *testing.T) { // R3: what is handed in stays as it was, also behind its end
	marks := binds("Spare", 1, "Spare", 2, "Spare", 3, "Spare", 4)
	home, l := literal(t, "A: B says p(X, Y)")
	for _, before := range [][]api.Bind{nil, binds("Q", 1), binds("A", "a"), binds("A", "b"), binds("A", "a", "B", "b", "X", 1, "Y", 2), binds("A", "a", "B", "b", "X", 1)} {
		env := spared(before, marks...)
		holdUnify(t, variable("A"), text("a"), env)
		holdUnify(t, variable("New"), text("a"), env)
		holdUnify(t, variable("Spare"), num(9), env)
		holdLiteral(t, home, l, said("a", "b", "p", 1, 2), env)
		holdLiteral(t, home, l, said("a", "b", "p", 1, 3), env)
		r := api.Rule{Home: home, Pred: "p", Args: spared(l.Args, variable("Spare")), To: variable("B"), Body: spared([]api.Literal{l}, api.Literal{Pred: "spare"})}
		holdHead(t, r, env)
		holdBody(t, r, env)
		if !slices.Equal(env[:len(env)+4], append(slices.Clone(before), marks...)) {
			t.Errorf("%+v became %+v", before, env[:len(env)+4])
		}
		if r.Args[:3][2] != variable("Spare") || r.Body[:2][1].Pred != "spare" {
			t.Errorf("%+v", r)
		}
	}
	f := api.Fact{At: "a", By: "b", Pred: "p", Args: spared([]api.Const{num(1), num(2)}, num(8))}
	body := spared([]api.Fact{f}, said("s", "s", "spare"))
	r := rule(t, "A: h(X) :- B says p(X, Y).")
	if !match.Follows(r, api.Deriv{Head: said("a", "a", "h", 1), Body: body}) || f.Args[:3][2] != num(8) || body[:2][1].Pred != "spare" {
		t.Errorf("%+v, %+v", f, body)
	}
}

func TestNothingChanges(t *testing.T) { // R3 and R4: what is handed in; and the same is told again
	die := rand.New(rand.NewSource(14))
	for i := range 3000 {
		m := maker{die, 5}
		r, env := m.rule(), m.whole()
		l, f := m.literal(), m.fact()
		d := api.Deriv{Rule: i, Head: m.fact()}
		for _, x := range r.Body {
			d.Body = append(d.Body, m.near(r.Home, x, env))
		}
		oldRule, oldEnv, oldArgs, oldFact, oldHead, oldBody := copiedRule(r), slices.Clone(env), slices.Clone(l.Args), copiedFact(f), copiedFact(d.Head), copiedFacts(d.Body)
		for range 2 {
			holdLiteral(t, r.Home, l, f, env)
			holdHead(t, r, env)
			holdBody(t, r, env)
			holdFollows(t, r, d)
		}
		if !sameRule(r, oldRule) || !slices.Equal(env, oldEnv) || !slices.Equal(l.Args, oldArgs) || !sameFact(f, oldFact) || !sameFact(d.Head, oldHead) || !sameFacts(d.Body, oldBody) || d.Rule != i {
			t.Errorf("%+v, %+v, %+v, %+v, %+v", r, env, l, f, d)
		}
	}
}

// spoil writes over all that a list has, its spare room too.
func spoil[T any](l []T, with T) {
	l = l[:cap(l)]
	for i := range l {
		l[i] = with
	}
}

func TestOwnMemory(t *testing.T) { // R3: what Unify, Literal, Head and Body tell is the caller's own
	spoilt := api.Bind{Var: "Spoilt", Val: text("spoilt")}
	home, l := literal(t, "A: B says p(X, Y)")
	f := said("a", "b", "p", 1, 2)
	for _, env := range [][]api.Bind{binds("Q", 1), binds("A", "a"), binds("A", "a", "B", "b", "X", 1, "Y", 2)} {
		env = spared(env, binds("S", 1, "S", 2, "S", 3)...)
		before := slices.Clone(env[:len(env)+3])
		one, ok1 := match.Unify(variable("A"), text("a"), env)
		two, ok2 := match.Unify(variable("A"), text("a"), env)
		three, ok3 := match.Literal(home, l, f, env)
		four, ok4 := match.Literal(home, l, f, env)
		if !ok1 || !ok2 || !ok3 || !ok4 {
			t.Fatal("they match")
		}
		spoil(one, spoilt)
		spoil(three, spoilt)
		want, _ := wantUnify(variable("A"), text("a"), env)
		if !slices.Equal(two, want) {
			t.Errorf("%+v", two)
		}
		if want, _ = wantLiteral(home, l, f, env); !slices.Equal(four, want) {
			t.Errorf("%+v", four)
		}
		spoil(two, spoilt)
		spoil(four, spoilt)
		if !slices.Equal(env[:len(env)+3], before) || !sameFact(f, said("a", "b", "p", 1, 2)) {
			t.Errorf("%+v, %+v", env[:len(env)+3], f)
		}
	}
	r := rule(t, "A: p(X, 1) :- q(X, 2), q(X, 2).")
	env := binds("A", "a", "X", 1)
	head, _ := match.Head(r, env)
	body, _ := match.Body(r, env)
	spoil(head.Args, text("spoilt"))
	spoil(body[0].Args, text("spoilt"))
	if !sameFact(body[1], said("a", "a", "q", 1, 2)) {
		t.Errorf("%+v", body)
	}
	spoil(body, api.Fact{Pred: "spoilt"})
	holdHead(t, r, env)
	holdBody(t, r, env)
	if !sameRule(r, rule(t, "A: p(X, 1) :- q(X, 2), q(X, 2).")) {
		t.Errorf("%+v", r)
	}
}

func FuzzMatch(f *testing.F) { // P11.1 to P11.5
	for i, x := range allTerms() {
		c := allConsts()[i%len(allConsts())]
		f.Add(x.Var, x.Val.Num, x.Val.N, x.Val.S, c.Num, c.N, c.S, "p", int64(i))
	}
	f.Fuzz(func(t *testing.T, v string, num1 bool, n1 int, s1 string, num2 bool, n2 int, s2, pred string, seed int64) {
		c, other := api.Const{Num: num1, N: n1, S: s1}, api.Const{Num: num2, N: n2, S: s2}
		m := maker{rand.New(rand.NewSource(seed)), 10}
		for _, x := range []api.Term{{Var: v, Val: c}, variable(v), value(c), value(other)} {
			for _, env := range [][]api.Bind{nil, {{Var: v, Val: other}}, {{Var: v, Val: c}, {Var: v, Val: other}}, m.env(), append(m.env(), api.Bind{Var: v, Val: c})} {
				hold(t, x, other, pred, api.Fact{At: s1, By: s2, Pred: pred, Args: []api.Const{c, other}}, env, n1)
				hold(t, x, c, pred, api.Fact{At: s2, By: s2, Pred: pred, Args: []api.Const{other}}, env, n2)
				r := m.rule()
				r.Args = append(r.Args, x)
				for i := range r.Body {
					r.Body[i].Args = append(r.Body[i].Args, x)
				}
				head, ok := holdHead(t, r, env)
				body, has := holdBody(t, r, env)
				d := api.Deriv{Rule: n1, Head: head, Body: body}
				if holdFollows(t, r, d); ok && has && inRange(r) && !match.Follows(r, d) {
					t.Errorf("%+v, %+v: it does not follow", r, d)
				}
				for _, l := range r.Body {
					g := m.near(r.Home, l, env)
					got, ok := holdLiteral(t, r.Home, l, g, env)
					if !ok {
						continue
					}
					if again, ok := match.Literal(r.Home, l, g, got); !ok || !slices.Equal(again, got) || !slices.Equal(got[:len(env)], env) {
						t.Errorf("%+v, %+v, %+v: %+v, then %+v", l, g, env, got, again)
					}
				}
			}
		}
	})
}
