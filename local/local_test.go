package local_test

import (
	"math"
	"math/rand"
	"slices"
	"strconv"
	"strings"
	"testing"

	"avowal/api"
	"avowal/check"
	"avowal/fact"
	"avowal/local"
	"avowal/model"
	"avowal/parse"
	"avowal/show"
)

// becomes holds what a text's rules become against lines that are written out.
func becomes(t *testing.T, s string, want ...string) {
	t.Helper()
	l := program(t, s)
	got := rewritten(t, l...)
	var lines []string
	for _, r := range got {
		lines = append(lines, shownRule(r))
	}
	if !slices.Equal(lines, want) {
		t.Errorf("%s becomes\n%s\nwant\n%s", s, strings.Join(lines, "\n"), strings.Join(want, "\n"))
	}
}

func TestExamples(t *testing.T) { // the chapter's
	becomes(t, "A: p(X) :- q(B), r(X) at B.",
		"A: ~ask0.1(A, B) to B :- q(B).",
		"B: ~tell0.1(A, B, X) to A :- A says ~ask0.1(A, B), r(X).",
		"A: p(X) :- B says ~tell0.1(A, B, X).")
}

func TestExampleOfTheWhole(t *testing.T) { // the document's fourth: what is known, relays and all
	l := rewritten(t, program(t, "A: p(X) :- q(B), r(X) at B.")...)
	w := model.World{Homes: []string{"a", "b"}, Names: []string{"a", "b"}}
	m, e := model.Least(w, l, facts("a q b; b r 7"))
	if want := fact.Sorted(facts("a q b; b r 7; a p 7; b|a ~ask0.1 a b; a|b ~tell0.1 a b 7")...); e != api.OK || !sameFacts(m, want) {
		t.Errorf("%+v, %d, want %+v", m, e, want)
	}
	if got, want := local.Seen(m), fact.Sorted(facts("a q b; b r 7; a p 7")...); !sameFacts(got, want) {
		t.Errorf("%+v, want %+v", got, want)
	}
}

func TestNoRemote(t *testing.T) { // P13.1, P13.2: no At, or one that is the Home: as it is, without its At
	becomes(t, "")
	for s, want := range map[string]string{
		"A: p(X) :- q(X).":                     "A: p(X) :- q(X).",
		"a: p() :- q().":                       "a: p() :- q().",
		"A: p(X) :- q(X) at A.":                "A: p(X) :- q(X).",
		"a: p(X) :- q(X) at a.":                "a: p(X) :- q(X).",
		`a: p(X) :- q(X) at "a".`:              "a: p(X) :- q(X).",
		`"A b": p(X) :- q(X) at "A b".`:        `"A b": p(X) :- q(X).`,
		`"to": p(X) :- q(X) at "to".`:          `"to": p(X) :- q(X).`,
		"A: p(X) to B :- B says q(X, B) at A.": "A: p(X) to B :- B says q(X, B).",
		"a: p(X, 1, b) to c :- c says q(X) at a, r(a), d says s(-5) at a.":      "a: p(X, 1, b) to c :- c says q(X), r(a), d says s(-5).",
		"A: p(A) :- q(X) at A, r(Y) at A, s(Z), A says t(X, Y, Z, \"X\") at A.": `A: p(A) :- q(X), r(Y), s(Z), A says t(X, Y, Z, "X").`,
	} {
		becomes(t, s, want)
		becomes(t, want, want)
	}
	becomes(t, "A: p() :- q() at A. B: p() :- q() at B. a: p() :- q() at a.", "A: p() :- q().", "B: p() :- q().", "a: p() :- q().")
}

func TestOneRemote(t *testing.T) { // P13.2: as the first literal, in the middle, as the last one
	becomes(t, "A: p(X) :- q(X) at b.",
		"A: ~ask0.0(A) to b.",
		"b: ~tell0.0(A, X) to A :- A says ~ask0.0(A), q(X).",
		"A: p(X) :- b says ~tell0.0(A, X).")
	becomes(t, "A: p(X) :- q(X) at b, r(X, Y), s(Y) at A.",
		"A: ~ask0.0(A) to b.",
		"b: ~tell0.0(A, X) to A :- A says ~ask0.0(A), q(X).",
		"A: p(X) :- b says ~tell0.0(A, X), r(X, Y), s(Y).")
	becomes(t, "A: p(X) :- q(Y, B) at A, r(X, Y) at B, s(X) at A.",
		"A: ~ask0.1(A, Y, B) to B :- q(Y, B).",
		"B: ~tell0.1(A, Y, B, X) to A :- A says ~ask0.1(A, Y, B), r(X, Y).",
		"A: p(X) :- B says ~tell0.1(A, Y, B, X), s(X).")
	becomes(t, "A: p(Z) :- q(Y), r(B), s(Z, Y), t(Z) at B.",
		"A: ~ask0.3(A, Y, B, Z) to B :- q(Y), r(B), s(Z, Y).",
		"B: ~tell0.3(A, Y, B, Z) to A :- A says ~ask0.3(A, Y, B, Z), t(Z).",
		"A: p(Z) :- B says ~tell0.3(A, Y, B, Z).")
}

func TestConstantPlaces(t *testing.T) { // P13.1: another term than the Home, whatever it will be
	becomes(t, "a: p(X) :- q(X) at b.",
		"a: ~ask0.0() to b.",
		"b: ~tell0.0(X) to a :- a says ~ask0.0(), q(X).",
		"a: p(X) :- b says ~tell0.0(X).")
	becomes(t, "a: p() :- q() at b.",
		"a: ~ask0.0() to b.",
		"b: ~tell0.0() to a :- a says ~ask0.0(), q().",
		"a: p() :- b says ~tell0.0().")
	becomes(t, "a: p(X) :- q(B), r(X) at B.",
		"a: ~ask0.1(B) to B :- q(B).",
		"B: ~tell0.1(B, X) to a :- a says ~ask0.1(B), r(X).",
		"a: p(X) :- B says ~tell0.1(B, X).")
	becomes(t, `A: p() :- q() at "A".`, // a text that reads like the Home's variable
		`A: ~ask0.0(A) to "A".`,
		`"A": ~tell0.0(A) to A :- A says ~ask0.0(A), q().`,
		`A: p() :- "A" says ~tell0.0(A).`)
	becomes(t, `"A": p() :- q(A), r() at A.`,
		`"A": ~ask0.1(A) to A :- q(A).`,
		`A: ~tell0.1(A) to "A" :- "A" says ~ask0.1(A), r().`,
		`"A": p() :- A says ~tell0.1(A).`)
	becomes(t, "a: p() :- q() at a1, r() at a, s() at b.",
		"a: ~ask0.0() to a1.",
		"a1: ~tell0.0() to a :- a says ~ask0.0(), q().",
		"a: ~ask0.2() to b :- a1 says ~tell0.0(), r().",
		"b: ~tell0.2() to a :- a says ~ask0.2(), s().",
		"a: p() :- b says ~tell0.2().")
}

func TestSeveralRemote(t *testing.T) { // P13.2: one right behind the other, and with local ones between
	becomes(t, "A: p(X, Y) :- q(B), r(X, C) at B, s(Y) at C.",
		"A: ~ask0.1(A, B) to B :- q(B).",
		"B: ~tell0.1(A, B, X, C) to A :- A says ~ask0.1(A, B), r(X, C).",
		"A: ~ask0.2(A, B, X, C) to C :- B says ~tell0.1(A, B, X, C).",
		"C: ~tell0.2(A, B, X, C, Y) to A :- A says ~ask0.2(A, B, X, C), s(Y).",
		"A: p(X, Y) :- C says ~tell0.2(A, B, X, C, Y).")
	becomes(t, "A: p(Y) :- q(B) at c, r(C), s(Y, C) at B, t(Y).",
		"A: ~ask0.0(A) to c.",
		"c: ~tell0.0(A, B) to A :- A says ~ask0.0(A), q(B).",
		"A: ~ask0.2(A, B, C) to B :- c says ~tell0.0(A, B), r(C).",
		"B: ~tell0.2(A, B, C, Y) to A :- A says ~ask0.2(A, B, C), s(Y, C).",
		"A: p(Y) :- B says ~tell0.2(A, B, C, Y), t(Y).")
	becomes(t, "A: p() :- o() at b, o() at b, o() at c, o() at b.", // also at one place again
		"A: ~ask0.0(A) to b.",
		"b: ~tell0.0(A) to A :- A says ~ask0.0(A), o().",
		"A: ~ask0.1(A) to b :- b says ~tell0.0(A).",
		"b: ~tell0.1(A) to A :- A says ~ask0.1(A), o().",
		"A: ~ask0.2(A) to c :- b says ~tell0.1(A).",
		"c: ~tell0.2(A) to A :- A says ~ask0.2(A), o().",
		"A: ~ask0.3(A) to b :- c says ~tell0.2(A).",
		"b: ~tell0.3(A) to A :- A says ~ask0.3(A), o().",
		"A: p() :- b says ~tell0.3(A).")
}

func TestByAndTo(t *testing.T) { // P13.2: who says a literal, and to whom the head goes, stay
	becomes(t, "A: p(X) to D :- C says q(B, D), C says r(X) at B.",
		"A: ~ask0.1(A, C, B, D) to B :- C says q(B, D).",
		"B: ~tell0.1(A, C, B, D, X) to A :- A says ~ask0.1(A, C, B, D), C says r(X).",
		"A: p(X) to D :- B says ~tell0.1(A, C, B, D, X).")
	becomes(t, "A: p() to b :- c says q() at b, A says q() at c, D says q() at c.",
		"A: ~ask0.0(A) to b.",
		"b: ~tell0.0(A) to A :- A says ~ask0.0(A), c says q().",
		"A: ~ask0.1(A) to c :- b says ~tell0.0(A).",
		"c: ~tell0.1(A) to A :- A says ~ask0.1(A), A says q().",
		"A: ~ask0.2(A) to c :- c says ~tell0.1(A).",
		"c: ~tell0.2(A, D) to A :- A says ~ask0.2(A), D says q().",
		"A: p() to b :- c says ~tell0.2(A, D).")
	becomes(t, "A: p(A, 1, X, x) to A :- B says q(), B says r(X) at B.",
		"A: ~ask0.1(A, B) to B :- B says q().",
		"B: ~tell0.1(A, B, X) to A :- A says ~ask0.1(A, B), B says r(X).",
		"A: p(A, 1, X, x) to A :- B says ~tell0.1(A, B, X).")
}

func TestOrderOfVariables(t *testing.T) { // P13.1: check.Bound's: the Home's, then By, Args, At, each once, as they come first
	becomes(t, "Z: p(C) :- Y says q(X, W, X), V says r(W, U, Z, T) at X, s(Y, C) at U.",
		"Z: ~ask0.1(Z, Y, X, W) to X :- Y says q(X, W, X).",
		"X: ~tell0.1(Z, Y, X, W, V, U, T) to Z :- Z says ~ask0.1(Z, Y, X, W), V says r(W, U, Z, T).",
		"Z: ~ask0.2(Z, Y, X, W, V, U, T) to U :- X says ~tell0.1(Z, Y, X, W, V, U, T).",
		"U: ~tell0.2(Z, Y, X, W, V, U, T, C) to Z :- Z says ~ask0.2(Z, Y, X, W, V, U, T), s(Y, C).",
		"Z: p(C) :- U says ~tell0.2(Z, Y, X, W, V, U, T, C).")
	becomes(t, "b: p(X1) :- q(X2, X10, X1), r(A, X2) at X10.",
		"b: ~ask0.1(X2, X10, X1) to X10 :- q(X2, X10, X1).",
		"X10: ~tell0.1(X2, X10, X1, A) to b :- b says ~ask0.1(X2, X10, X1), r(A, X2).",
		"b: p(X1) :- X10 says ~tell0.1(X2, X10, X1, A).")
}

func TestSeveralRules(t *testing.T) { // P13.2: the numbers are the rule's and the literal's, whatever became of the ones ahead
	becomes(t, "A: p() :- q(). A: p() :- q() at b. A: r() :- q() at A. B: p() :- q(), p() at b.",
		"A: p() :- q().",
		"A: ~ask1.0(A) to b.",
		"b: ~tell1.0(A) to A :- A says ~ask1.0(A), q().",
		"A: p() :- b says ~tell1.0(A).",
		"A: r() :- q().",
		"B: ~ask3.1(B) to b :- q().",
		"b: ~tell3.1(B) to B :- B says ~ask3.1(B), p().",
		"B: p() :- b says ~tell3.1(B).")
	becomes(t, "A: p() :- q() at b. A: p() :- q() at b.", // the same rule again is another one
		"A: ~ask0.0(A) to b.",
		"b: ~tell0.0(A) to A :- A says ~ask0.0(A), q().",
		"A: p() :- b says ~tell0.0(A).",
		"A: ~ask1.0(A) to b.",
		"b: ~tell1.0(A) to A :- A says ~ask1.0(A), q().",
		"A: p() :- b says ~tell1.0(A).")
}

func TestMostRules(t *testing.T) { // P13.2: numbers of two digits; as many rules and remote literals as there may be
	got := rewritten(t, program(t, strings.Repeat("a: p() :- q() at b, q() at c, q() at d, q() at e. ", api.MaxRules))...)
	if len(got) != 144 {
		t.Fatal(len(got))
	}
	for i, r := range got {
		rule, k := strconv.Itoa(i/9), strconv.Itoa(i%9/2)
		want := "~ask" + rule + "." + k
		switch {
		case i%9 == 8:
			want = "p"
		case i%9%2 == 1:
			want = "~tell" + rule + "." + k
		}
		if r.Pred != want {
			t.Errorf("rule %d has the head %s, want %s", i, r.Pred, want)
		}
	}
	if got[91].Pred != "~tell10.0" || got[133].Pred != "~tell14.3" || got[135].Pred != "~ask15.0" || got[142].Body[0].Pred != "~ask15.3" || got[143].Body[0].Pred != "~tell15.3" {
		t.Error(shown(got[90:]))
	}
	for ahead := range api.MaxRules { // rules without remote literals count too
		n := strconv.Itoa(ahead)
		becomes(t, strings.Repeat("a: p() :- q(). ", ahead)+"A: r() :- q(), q() at b.", append(slices.Repeat([]string{"a: p() :- q()."}, ahead),
			"A: ~ask"+n+".1(A) to b :- q().",
			"b: ~tell"+n+".1(A) to A :- A says ~ask"+n+".1(A), q().",
			"A: r() :- b says ~tell"+n+".1(A).")...)
	}
}

func TestWidestRelay(t *testing.T) { // P13.1: all variables that a rule can have, and a fact may have so many
	r := api.Rule{Home: variable("A"), Pred: "p"}
	for k := range api.MaxBody {
		n := strconv.Itoa(k)
		r.Body = append(r.Body, api.Literal{By: variable("B" + n), Pred: "q", Args: terms(variable("W"+n), variable("X"+n), variable("Y"+n), variable("Z"+n)), At: name("b")})
	}
	got := rewritten(t, r)
	for k := range api.MaxBody {
		if ask, tell := got[2*k], got[2*k+1]; len(ask.Args) != 1+5*k || len(tell.Args) != 6+5*k {
			t.Errorf("literal %d: %s\n%s", k, shownRule(ask), shownRule(tell))
		}
	}
	if last := got[len(got)-1].Body[0]; len(last.Args) != 21 || len(last.Args) > api.MaxWide {
		t.Error(len(last.Args))
	}
}

// refused holds that a program is refused by that error, and nothing told.
func refused(t *testing.T, want api.Errno, l ...api.Rule) {
	t.Helper()
	if got, e := local.Rewrite(l...); e != want || len(got) != 0 {
		t.Errorf("%d and\n%swant %d and nothing: of\n%s", e, shown(got), want, shown(l))
	}
}

func TestErrors(t *testing.T) { // P13.2: check.Program's error, and nothing
	ok := program(t, "A: p(X) :- q(B), r(X) at B.")
	for s, want := range map[string]api.Errno{
		"5: p(X) :- q(X).":            api.ErrPlace,
		"A: p(X) to 5 :- q(X).":       api.ErrPlace,
		"A: p(X) :- 5 says q(X).":     api.ErrPlace,
		"A: p(X) :- q(X) at 5.":       api.ErrPlace,
		"A: p(X) :- q(X), q() at b.":  api.ErrArity,
		"A: p(X) :- r(X), p(X, X).":   api.ErrArity,
		"A: p(X) :- q(X) at B.":       api.ErrFree,
		"A: p(X) :- q(X) at X.":       api.ErrFree,
		"A: p(X) :- r(X) at B, q(B).": api.ErrFree,
		"a: p(A) :- r(A) at A.":       api.ErrFree,
		"A: p(Y) :- r(X) at b.":       api.ErrRange,
		"A: p(A) to B :- r(X) at A.":  api.ErrRange,
	} {
		l := program(t, s)
		refused(t, want, l...)
		refused(t, want, append(slices.Clone(l), ok...)...)
		refused(t, want, append(slices.Clone(ok), l...)...)
	}
	refused(t, api.ErrArity, program(t, "A: p(X) :- q(X). A: q() :- r() at b.")...)
	refused(t, api.ErrMany, slices.Repeat(ok, api.MaxRules+1)...)
	refused(t, api.ErrMany, make([]api.Rule, api.MaxRules+1)...)
	if got := rewritten(t, slices.Repeat(ok, api.MaxRules)...); len(got) != 3*api.MaxRules {
		t.Error(len(got))
	}
}

func TestShape(t *testing.T) { // P13.2: ErrShape: a rule that can't be shown, wherever it stands
	refused(t, api.ErrShape, api.Rule{})
	base := program(t, "A: p(X) to b :- c says q(B), r(X) at B.")[0]
	with := func(change func(r *api.Rule)) {
		r := base
		r.Args, r.Body = slices.Clone(r.Args), slices.Clone(r.Body)
		change(&r)
		refused(t, api.ErrShape, r)
		refused(t, api.ErrShape, base, r)
		refused(t, api.ErrShape, r, base)
	}
	with(func(r *api.Rule) { r.Body = nil })
	with(func(r *api.Rule) { r.Body = slices.Repeat(r.Body[:1], api.MaxBody+1) })
	with(func(r *api.Rule) { r.Args = slices.Repeat(r.Args, api.MaxArgs+1) })
	with(func(r *api.Rule) { r.Home = api.Term{} })
	for _, odd := range []api.Term{{Var: "A", Val: text("a")}, {Var: "a"}, {Val: api.Const{N: 1, S: "a"}}, name(`"`), variable("B ")} {
		with(func(r *api.Rule) { r.Home = odd })
		with(func(r *api.Rule) { r.To = odd })
		with(func(r *api.Rule) { r.Args[0] = odd })
		with(func(r *api.Rule) { r.Body[0].By = odd })
		with(func(r *api.Rule) { r.Body[1].At = odd })
		with(func(r *api.Rule) { r.Body[1].Args = terms(odd) })
	}
	for _, s := range []string{"~", "~p", "~ask0.0", "", "says", "P", "p~"} {
		with(func(r *api.Rule) { r.Pred = s })
		with(func(r *api.Rule) { r.Body[0].Pred = s })
		with(func(r *api.Rule) { r.Body[1].Pred = s })
	}
}

func TestNoTextHasARelay(t *testing.T) { // P13.1
	for _, s := range []string{"a: ~p() :- q().", "a: p() :- ~q().", "a: ~ask0.1() :- q().", "a: p() :- b says ~tell0.1().", "a: ~() :- q()."} {
		if l, _, e := parse.Program(s); e == api.OK {
			t.Errorf("%s: %+v", s, l)
		}
	}
	for _, r := range rewritten(t, program(t, "A: p(X) :- q(B), r(X) at B.")...) {
		if _, e := show.Rule(r); e != api.ErrShape {
			t.Errorf("%s can be shown", shownRule(r))
		}
		refused(t, api.ErrShape, r)
	}
}

func TestRelay(t *testing.T) { // P13.3
	for _, s := range []string{"~", "~~", "~p", "~ask0.1", "~tell15.3", "~ ", "~\x00", "~\xff", "~é", "~" + strings.Repeat("x", 1<<16), "\x7e", string(rune(126))} {
		if !local.Relay(s) {
			t.Errorf("%.20q is none", s)
		}
	}
	for _, s := range []string{"", "p", "p~", "ask0.1", "tell0.1", "p~q", " ~", "\x00~", "\x7d", "\x7f", "}", "-", "\xfe", "˜", "～", "says", "P", strings.Repeat("x", 1<<16) + "~"} {
		if local.Relay(s) {
			t.Errorf("%.20q is one", s)
		}
	}
	for b := range 256 {
		for _, s := range []string{string([]byte{byte(b)}), string([]byte{byte(b), '~'}), string([]byte{byte(b), 'p'})} {
			if local.Relay(s) != (b == 126) {
				t.Errorf("%q", s)
			}
		}
	}
}

func TestSeen(t *testing.T) { // P13.3: in their order, repetitions and all
	for s, want := range map[string]string{
		"":                            "",
		"a p":                         "a p",
		"a ~":                         "",
		"a ~p 1":                      "",
		"a ~p; b ~":                   "",
		"b q; a p 1; b q; a p 1; a p": "b q; a p 1; b q; a p 1; a p",
		"b|a ~ask0.1 a b; a q b; a|b ~tell0.1 a b 7; b r 7; a p 7": "a q b; b r 7; a p 7",
		"b q 2; a ~x; b q 1; b q 2; b ~x; a p":                     "b q 2; b q 1; b q 2; a p",
		"~ p ~; a|~ q ~p; a p~q; ~ ~ ~":                            "~ p ~; a|~ q ~p; a p~q", // names and texts are no predicates
	} {
		if got := local.Seen(facts(s)); !sameFacts(got, facts(want)) {
			t.Errorf("%s: %+v, want %s", s, got, want)
		}
	}
	if len(local.Seen(nil)) != 0 || len(local.Seen([]api.Fact{})) != 0 {
		t.Error("nothing is seen")
	}
	odd := []api.Fact{{}, {Pred: "~"}, {Args: []api.Const{{Num: true, N: math.MinInt, S: "~"}}}, {At: "\xff", By: "\x00", Pred: "\xff~"}, {Pred: "~", At: "a"}}
	if got, want := local.Seen(odd), []api.Fact{odd[0], odd[2], odd[3]}; !sameFacts(got, want) {
		t.Errorf("%+v, want %+v", got, want)
	}
}

func TestSeenOfMany(t *testing.T) { // P13.3 of lists by chance; R1: of very many
	k := maker{rand.New(rand.NewSource(1)), 9}
	for range 2000 {
		l := k.base([]string{"a", "b"}, 12)
		for i := range l {
			if k.Intn(2) == 0 {
				l[i].Pred = pick(k, "~", "~ask0.1", "~~p", "p~", "")
			}
		}
		if got := local.Seen(l); !sameFacts(got, wantSeen(l)) {
			t.Fatalf("%+v of %+v", got, l)
		}
	}
	many := slices.Repeat(facts("a p 1; a ~p 1; b q"), 1<<16)
	if got := local.Seen(many); !sameFacts(got, slices.Repeat(facts("a p 1; b q"), 1<<16)) {
		t.Error(len(got))
	}
}

func TestRewriteOfMany(t *testing.T) { // P13.2, P13.4: of programs by chance, most of which may be run
	ran, remote := 0, 0
	die := rand.New(rand.NewSource(2))
	for i := range 20000 {
		k := maker{die, 40 * (i % 3)}
		l := k.rules(4)
		if got := rewritten(t, l...); got != nil {
			ran++
			remote += (len(got) - len(l)) / 2
		}
	}
	if ran < 10000 || ran > 19000 || remote < ran {
		t.Error("only so many:", ran, remote)
	}
}

func TestErrorIsChecks(t *testing.T) { // P13.2: of each error of a program by chance
	seen := map[api.Errno]int{}
	die := rand.New(rand.NewSource(3))
	for range 20000 {
		l := maker{die, 12}.rules(18)
		want, _, _ := check.Program(l...)
		seen[want]++
		if got, e := local.Rewrite(l...); e != want || e != api.OK && len(got) != 0 {
			t.Fatalf("%d and\n%swant %d: of\n%s", e, shown(got), want, shown(l))
		}
	}
	for _, e := range []api.Errno{api.OK, api.ErrMany, api.ErrShape, api.ErrPlace, api.ErrArity, api.ErrFree, api.ErrRange} {
		if seen[e] < 5 {
			t.Errorf("%d: only %d", e, seen[e])
		}
	}
}

func TestAgain(t *testing.T) { // P13.4: what has no remote literal any more is told as it is again
	die := rand.New(rand.NewSource(4))
	again := 0
	for range 5000 {
		k := maker{die, 0}
		l := k.rules(3)
		got := rewritten(t, l...)
		if len(got) != len(l) {
			continue
		}
		again++
		if twice := rewritten(t, got...); !sameRules(twice, got) {
			t.Fatalf("\n%sbecame\n%s", shown(got), shown(twice))
		}
	}
	if again < 100 {
		t.Error("only so many:", again)
	}
}

func TestMeaning(t *testing.T) { // P13.5: programs, bases, and what follows from them, written out
	for _, one := range []struct{ text, names, base, follow string }{
		{"A: p(X) :- q(B), r(X) at B.", "a b", "a q b; b r 7", "a p 7"},
		{"A: p(X) :- q(B), r(X) at B.", "a b", "a q a; a r 7; b r 8", "a p 7"}, // a place that turns out to be the home
		{"A: p(X) :- q(B), r(X) at B.", "a b", "a q b; b|a r 7; a r 8", ""},
		{"A: p(X) :- q(B), r(X) at B.", "a b", "a q c; a q 1; b r 7", ""}, // nobody's place, and no place
		{"A: p(X) :- q(B), A says r(X) at B.", "a b c", "a q b; b|a r 7; b r 8; b|c r 9", "a p 7"},
		{"A: p(X) :- q(B), C says r(X) at B.", "a b c", "a q b; b|a r 7; b r 8; b|c r 9; b|d r 6", "a p 6; a p 7; a p 8; a p 9"},
		{"A: p(X) :- r(X) at b.", "a b", "b r 1; a r 2", "a p 1; b p 1"},
		{"A: p(X) :- r(X) at c.", "a b", "a r 1; b r 2", ""},
		{"a: p(X) :- r(X) at b.", "a b", "b r 1", "a p 1"},
		{"a: p(X) to b :- r(X) at b.", "a b c", "b r 1", "b|a p 1"},
		{"c: p(X) :- r(X) at b.", "a b", "b r 1", ""},
		{"A: p(X) to X :- q(B), r(X) at B.", "a b c", "a q b; b r c; b r d; b r 1", "c|a p c"},
		{"A: p(Y) :- q(B), r(X, C) at B, s(Y, X) at C.", "a b c", "a q b; b r 1 c; b r 2 a; c s 5 1; c s 6 2; a s 7 2; a s 8 1", "a p 5; a p 7"},
		{"A: p(A, B) :- q(B), q(A) at B.", "a b c", "a q b; b q a; b q c; c q a", "a p a b; b p b a"},
		{"A: n(A) :- s(). A: n(X) :- l(B), n(X) at B.", "a b c", "a s; b s; a l b; b l c; c l a", "a n a; a n b; b n b; b n a; c n a; c n b"}, // around
		{"A: p() :- o(), p() at b.", "a b", "a o; b o", ""},                                                                                   // what follows from itself alone
		{"A: p() :- q() at a, r() at a, s() at A.", "a b", "a q; a r; a s; b s", "a p; b p"},
		{"A: p(X) :- q(X), r(X) at b. A: p(X) :- r(X), q(X) at b.", "a b", "a q 1; b r 1; a r 2; b q 2; a q 3; b r 4", "a p 1; a p 2"},
		{"A: p(X) :- B says q(X), B says q(X) at B.", "a b", "a|b q 1; a|b q 2; b q 1; b|a q 2", "a p 1; b p 1"},
	} {
		follow, _, ok := sameMeaning(t, program(t, one.text), strings.Fields(one.names), facts(one.base))
		if want := fact.Sorted(facts(one.follow)...); !ok || !sameFacts(follow, want) {
			t.Errorf("%s, %s, %s: %+v, want %+v", one.text, one.names, one.base, follow, want)
		}
	}
}

func TestMeaningOfMany(t *testing.T) { // P13.5: of programs and bases by chance
	programs, told, most := 0, 0, 0
	die := rand.New(rand.NewSource(5))
	for i := range 12000 {
		k := maker{die, 0}
		l, names := k.rules(3), k.names()
		k.slip = 20 * (i % 3) // in the base alone: constants that may not be
		follow, relays, ok := sameMeaning(t, l, names, k.base(names, 40))
		if !ok {
			continue
		}
		programs++
		most = max(most, len(follow))
		if len(follow) > 0 && slices.ContainsFunc(relays, func(f api.Fact) bool { return strings.HasPrefix(f.Pred, "~tell") }) {
			told++
		}
	}
	if programs < 10000 || told < 2000 || most < 10 {
		t.Error("only so many:", programs, told, most)
	}
}

func TestMeaningOfGreatModels(t *testing.T) { // P13.5: up to where the relays make the model too great, though the program's is not
	l := program(t, "A: p(X) :- r(X) at b.")
	for many := range 82 {
		var base []api.Fact
		for n := range many {
			base = append(base, fact.Own("b", "r", num(n)))
		}
		follow, relays, ok := sameMeaning(t, l, []string{"a", "b"}, base) // each of the two asks once, and is told all
		if ok != (5*many+2 <= api.MaxModel) || ok && (len(follow) != 2*many || len(relays) != 2+2*many) {
			t.Errorf("%d facts: %d follow, %d relays, %t", many, len(follow), len(relays), ok)
		}
	}
}

func TestMeaningByRemoteLiterals(t *testing.T) { // P13.5: of all rules with two literals of few kinds, at all places; each of the heads stands for one choice
	var all []api.Literal
	for _, by := range terms(api.Term{}, variable("A"), variable("B"), name("b")) {
		for _, at := range terms(api.Term{}, variable("A"), variable("B"), name("a"), name("b")) {
			all = append(all, api.Literal{By: by, Pred: "q", Args: terms(variable("B"), variable("X")), At: at})
			all = append(all, api.Literal{By: by, Pred: "q", Args: terms(variable("X"), variable("Y")), At: at})
		}
	}
	base := facts("a q a 1; a q b 2; b q a 1; b q b 3; a|b q b 4; b|a q a 5; a|b q 2 1; b|c q 4 5; b q 1 a; b|a q 3 b")
	ran, told := 0, 0
	for _, home := range terms(variable("A"), name("a"), name("b"), variable("B")) {
		for _, x := range all {
			for _, y := range all {
				r := api.Rule{Home: home, Pred: "p", Body: []api.Literal{x, y}}
				for _, v := range check.Vars(r)[:min(len(check.Vars(r)), api.MaxArgs)] {
					r.Args = append(r.Args, variable(v))
				}
				if e, _, _ := check.Program(r); e != api.OK {
					continue
				}
				ran++
				follow, _, ok := sameMeaning(t, []api.Rule{r}, []string{"a", "b"}, base)
				if !ok {
					t.Fatal("too great:", shownRule(r))
				}
				told += len(follow)
			}
		}
	}
	if ran < 3000 || told < ran {
		t.Error("only so many:", ran, told)
	}
}

func TestNoPanic(t *testing.T) { // R1, R5: whatever the fields hold
	for _, s := range []string{"", "a", "A", "\x00", "\xff\xfe", "é", "~ask0.1", "~", "says", strings.Repeat("X", 1<<14)} {
		local.Relay(s)
		for _, n := range []int{0, -1, math.MinInt, math.MaxInt} {
			for _, is := range []bool{false, true} {
				c := api.Const{Num: is, N: n, S: s}
				for _, x := range []api.Term{{}, variable(s), {Val: c}, {Var: s, Val: c}} {
					literal := api.Literal{By: x, Pred: s, Args: terms(x, x), At: x}
					good := api.Literal{Pred: "q", Args: terms(variable("X"), x), At: x}
					for _, r := range []api.Rule{{}, {Home: x}, {Home: x, Pred: s, Args: terms(x, x), To: x, Body: []api.Literal{{}, literal}}, {Home: variable("A"), Pred: "p", Args: terms(x), To: x, Body: []api.Literal{good, good}}, {Home: x, Pred: "p", Body: []api.Literal{good, literal}}} {
						rewritten(t, r)
						rewritten(t, r, r, r)
					}
				}
				l := []api.Fact{{}, {At: s, By: s, Pred: s, Args: []api.Const{c, {}, c}}, {Pred: "p" + s, Args: []api.Const{c}}}
				if got := local.Seen(l); !sameFacts(got, wantSeen(l)) {
					t.Errorf("%+v of %+v", got, l)
				}
			}
		}
	}
}

func TestItEnds(t *testing.T) { // R1: however great what comes in is
	good := program(t, "A: p(X) :- q(B), r(X) at B.")[0]
	refused(t, api.ErrMany, slices.Repeat([]api.Rule{good}, 1<<18)...)
	long := good
	long.Body = slices.Repeat(good.Body, 1<<18)
	refused(t, api.ErrShape, long)
	long = good
	long.Body = slices.Clone(good.Body)
	long.Body[1].Args = slices.Repeat(terms(variable("X")), 1<<20)
	refused(t, api.ErrShape, long)
	refused(t, api.ErrShape, api.Rule{Home: variable(strings.Repeat("A", 1<<24)), Pred: "p", Body: good.Body})
}

// roomy is a list with spare room behind it, in which something stands.
func roomy[T any](l []T, spare T) []T {
	m := append(slices.Clone(l), spare, spare, spare)
	return m[:len(l)]
}

func roomyFacts(l []api.Fact) []api.Fact {
	m := roomy(l, api.Fact{At: "spare", Pred: "spare"})
	for i := range m {
		m[i].Args = roomy(m[i].Args, text("spare"))
	}
	return m
}

func roomyRules(l []api.Rule) []api.Rule {
	m := roomy(l, api.Rule{Pred: "spare"})
	for i := range m {
		m[i].Args = roomy(m[i].Args, variable("Spare"))
		m[i].Body = roomy(m[i].Body, api.Literal{Pred: "spare"})
		for j := range m[i].Body {
			m[i].Body[j].Args = roomy(m[i].Body[j].Args, variable("Spare"))
		}
	}
	return m
}

// whole is a list with all its spare room.
func whole[T any](l []T) []T { return l[:cap(l)] }

func sameWholeRules(a, b []api.Rule) bool {
	return slices.EqualFunc(whole(a), whole(b), func(r, s api.Rule) bool {
		return r.Home == s.Home && r.Pred == s.Pred && r.To == s.To && slices.Equal(whole(r.Args), whole(s.Args)) && slices.EqualFunc(whole(r.Body), whole(s.Body), func(x, y api.Literal) bool {
			return x.By == y.By && x.Pred == y.Pred && x.At == y.At && slices.Equal(whole(x.Args), whole(y.Args))
		})
	})
}

func sameWholeFacts(a, b []api.Fact) bool {
	return slices.EqualFunc(whole(a), whole(b), func(f, g api.Fact) bool {
		return f.At == g.At && f.By == g.By && f.Pred == g.Pred && slices.Equal(whole(f.Args), whole(g.Args))
	})
}

// fill overwrites a list with its spare room.
func fill[T any](l []T, with T) {
	for i := range whole(l) {
		whole(l)[i] = with
	}
}

func spoilRules(l []api.Rule) {
	for _, r := range whole(l) {
		for _, x := range whole(r.Body) {
			fill(x.Args, variable("Spoilt"))
		}
		fill(r.Args, variable("Spoilt"))
		fill(r.Body, api.Literal{Pred: "spoilt"})
	}
	fill(l, api.Rule{Pred: "spoilt"})
}

func spoilFacts(l []api.Fact) {
	for _, f := range whole(l) {
		fill(f.Args, text("spoilt"))
	}
	fill(l, api.Fact{At: "spoilt"})
}

func TestHandedInStays(t *testing.T) { // R3: spare room too, and what was told shares none of it; R4: the same again
	die := rand.New(rand.NewSource(6))
	for range 3000 {
		k := maker{die, 60}
		l, m := k.rules(4), append(k.base([]string{"a", "b"}, 6), facts("a ~p 1; a p")...)
		l, m = roomyRules(l), roomyFacts(m)
		rules, known := roomyRules(l), roomyFacts(m)
		got, seen := rewritten(t, l...), local.Seen(m)
		if !sameFacts(seen, wantSeen(m)) || !sameWholeRules(l, rules) || !sameWholeFacts(m, known) {
			t.Fatalf("\n%s%+v: now\n%s%+v", shown(rules), known, shown(l), m)
		}
		spoilRules(got)
		spoilFacts(seen)
		if !sameWholeRules(l, rules) || !sameWholeFacts(m, known) {
			t.Fatalf("\n%s%+v: what was told shares memory with them", shown(rules), known)
		}
		rewritten(t, l...)
		if !sameFacts(local.Seen(m), wantSeen(m)) {
			t.Fatalf("%+v: another answer", m)
		}
	}
}

// lists are all lists of terms in rules, each of them once.
func lists(l []api.Rule) (all [][]api.Term) {
	for _, r := range l {
		all = append(all, r.Args)
		for _, x := range r.Body {
			all = append(all, x.Args)
		}
	}
	return all
}

func TestAnswerIsTheCallersOwn(t *testing.T) { // R3: no two lists of an answer share memory
	l := program(t, "A: p(X, Y) to C :- q(B), r(X, C) at B, q(X), s(Y, X) at C. a: p(X, X) :- q(X) at b, q(X) at a, s(X, B), s(X, B) at B.")
	want := wantRewrite(l)
	for i := range lists(want) {
		got := rewritten(t, l...)
		one := lists(got)[i]
		_ = append(one, slices.Repeat(terms(variable("Behind")), 9)...) // into the room behind it, if there is any
		for j := range one {
			one[j] = variable("Spoilt")
		}
		for j, other := range lists(got) {
			if j != i && !slices.Equal(other, lists(want)[j]) {
				t.Fatalf("list %d changed with list %d:\n%s", j, i, shown(got))
			}
		}
	}
	for i := range want {
		got := rewritten(t, l...)
		body := got[i].Body
		_ = append(body, make([]api.Literal, 9)...)
		for j := range body {
			body[j] = api.Literal{Pred: "spoilt"}
		}
		for j := range got {
			if j != i && !sameRule(got[j], want[j]) {
				t.Fatalf("rule %d changed with the body of rule %d:\n%s", j, i, shown(got))
			}
		}
	}
	known := facts("a p 1 2; b ~p 1 2; b q 1 2; a p 1 2")
	for i := range 3 {
		got := local.Seen(known)
		_ = append(got[i].Args, num(77), num(78), num(79))
		fill(got[i].Args, text("spoilt"))
		for j, f := range wantSeen(known) {
			if j != i && !sameFact(got[j], f) {
				t.Fatalf("fact %d changed with fact %d: %+v", j, i, got)
			}
		}
	}
}

func FuzzLocal(f *testing.F) {
	for i := range 8 {
		f.Add(int64(i), byte(i*5), byte(i))
	}
	f.Fuzz(func(t *testing.T, seed int64, slip, most byte) {
		k := maker{rand.New(rand.NewSource(seed)), int(slip)}
		l, names := k.rules(3), k.names()
		base := k.base(names, int(most)%16)
		if e, _, _ := check.Program(l...); e != api.OK {
			refused(t, e, l...)
			return
		}
		sameMeaning(t, l, names, base)
	})
}
