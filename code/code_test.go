package code_test

import (
	"bytes"
	"math"
	"reflect"
	"slices"
	"strings"
	"testing"

	"avowal/api"
	"avowal/code"
)

const (
	mostRules = 768
	mostBody  = 5
)

// laid lays a program that may be laid.
func laid(t *testing.T, l ...api.Rule) []byte {
	t.Helper()
	b, e := code.Encode(l...)
	if e != api.OK {
		t.Fatalf("%d rules: %d", len(l), int(e))
	}
	return b
}

func TestExamples(t *testing.T) {
	b, e := code.PutFact(nil, said("a", "a", "p", num(1)))
	if !bytes.Equal(b, []byte{2, 97, 2, 97, 2, 112, 2, 0, 2}) || e != api.OK {
		t.Error("a fact:", b, int(e))
	}
	if b, e := code.Encode(); !bytes.Equal(b, []byte{0}) || e != api.OK {
		t.Error("nothing:", b, int(e))
	}
	if b, e := code.Encode([]api.Rule{}...); !bytes.Equal(b, []byte{0}) || e != api.OK {
		t.Error("an empty list:", b, int(e))
	}
	if l, e := code.Decode([]byte{0}); len(l) != 0 || e != api.OK {
		t.Error("0:", l, int(e))
	}
	if l, e := code.Decode([]byte{0, 0}); l != nil || e != api.ErrForm {
		t.Error("0 0:", l, int(e))
	}
}

func TestFactBytes(t *testing.T) { // P5.1: written out
	long := bytes.Repeat([]byte{120}, 32)
	for _, c := range []struct {
		f    api.Fact
		want []byte
	}{
		{said("a", "b", "p"), []byte{2, 97, 2, 98, 2, 112, 0}},
		{api.Fact{At: "a", By: "b", Pred: "p", Args: []api.Const{}}, []byte{2, 97, 2, 98, 2, 112, 0}},
		{said("ab", "c", "qr", num(0), num(-1), text("z")), []byte{4, 97, 98, 2, 99, 4, 113, 114, 6, 0, 0, 0, 1, 1, 2, 122}},
		{said("a", "b", "p", num(math.MaxInt)), []byte{2, 97, 2, 98, 2, 112, 2, 0, 254, 255, 255, 255, 255, 255, 255, 255, 255, 1}},
		{said("a", "b", "p", num(math.MinInt)), []byte{2, 97, 2, 98, 2, 112, 2, 0, 255, 255, 255, 255, 255, 255, 255, 255, 255, 1}},
		{said("a", "b", "p", text(longest())), cat([]byte{2, 97, 2, 98, 2, 112, 2, 1, 64}, long)},
		{said("a", "b", "p", slices.Repeat([]api.Const{num(3)}, 48)...), cat([]byte{2, 97, 2, 98, 2, 112, 96}, bytes.Repeat([]byte{0, 6}, 48))},
	} {
		if b, e := code.PutFact(nil, c.f); !bytes.Equal(b, c.want) || e != api.OK {
			t.Errorf("%+v: %v %d, want %v", c.f, b, int(e), c.want)
		}
		if f, next, e := code.Fact(c.want, 0); !alike(f, c.f) || next != len(c.want) || e != api.OK {
			t.Errorf("%v: %+v %d %d", c.want, f, next, int(e))
		}
	}
}

func TestRuleBytes(t *testing.T) { // P5.1: written out
	x := variable("X")
	for _, c := range []struct {
		l    []api.Rule
		want []byte
	}{
		{[]api.Rule{{Pred: "p"}}, []byte{2, 0, 2, 112, 0, 0, 0}},
		{[]api.Rule{{Pred: "p"}, {Pred: "q"}}, []byte{4, 0, 2, 112, 0, 0, 0, 0, 2, 113, 0, 0, 0}},
		{
			[]api.Rule{{Home: x, Pred: "p", Args: []api.Term{x, {}, value(num(-1)), value(text("b"))}, To: value(text("a"))}},
			[]byte{2, 1, 2, 88, 2, 112, 8, 1, 2, 88, 0, 2, 0, 1, 2, 1, 2, 98, 2, 1, 2, 97, 0},
		},
		{
			[]api.Rule{{Pred: "p", Body: []api.Literal{{Pred: "q"}, {By: x, Pred: "r", Args: []api.Term{value(num(1))}, At: value(text("c"))}}}},
			[]byte{2, 0, 2, 112, 0, 0, 4, 0, 2, 113, 0, 0, 1, 2, 88, 2, 114, 2, 2, 0, 2, 2, 1, 2, 99},
		},
	} {
		if b, e := code.Encode(c.l...); !bytes.Equal(b, c.want) || e != api.OK {
			t.Errorf("%+v: %v %d, want %v", c.l, b, int(e), c.want)
		}
		if l, e := code.Decode(c.want); !alikeRules(l, c.l) || e != api.OK {
			t.Errorf("%v: %+v %d", c.want, l, int(e))
		}
	}
}

func TestManyBytes(t *testing.T) { // P5.1: held against its words
	for _, f := range facts() {
		if b, e := code.PutFact(nil, f); !bytes.Equal(b, wantFact(f)) || e != api.OK {
			t.Errorf("%+v: %v %d", f, b, int(e))
		}
	}
	for _, r := range rules() {
		if b := laid(t, r); !bytes.Equal(b, wantProgram([]api.Rule{r})) {
			t.Errorf("%+v: %v", r, b)
		}
	}
	for _, x := range goodTerms() {
		for _, r := range places(x) {
			if b := laid(t, r); !bytes.Equal(b, wantProgram([]api.Rule{r})) {
				t.Errorf("%+v: %v", r, b)
			}
		}
	}
	if b := laid(t, rules()...); !bytes.Equal(b, wantProgram(rules())) {
		t.Error("all of them: not the list's bytes")
	}
}

func refusesRule(t *testing.T, what string, r api.Rule) {
	t.Helper()
	ok := api.Rule{Pred: "p"}
	for _, l := range [][]api.Rule{{r}, {r, ok}, {ok, r}, append(slices.Repeat([]api.Rule{ok}, mostRules-1), r)} {
		if b, e := code.Encode(l...); b != nil || e != api.ErrRule {
			t.Errorf("%s: one of %d: %d bytes, %d", what, len(l), len(b), int(e))
		}
	}
}

func TestTermsThatMayBe(t *testing.T) { // P5.2
	for _, x := range badTerms() {
		for i, r := range places(x) {
			if _, e := code.Encode(r); e != api.ErrRule {
				t.Errorf("%+v at %d: %d", x, i, int(e))
			}
		}
	}
	for _, x := range badTerms() {
		refusesRule(t, "a term", places(x)[0])
	}
	for n := range 2*api.MaxText + 2 {
		for _, x := range []api.Term{variable(strings.Repeat("V", n)), value(text(strings.Repeat("v", n)))} {
			want := api.OK
			if n > api.MaxText { // with no byte it is none, and may be
				want = api.ErrRule
			}
			for i, r := range places(x) {
				if _, e := code.Encode(r); e != want {
					t.Errorf("%d bytes at %d: %d", n, i, int(e))
				}
			}
		}
	}
}

func TestPredsThatMayBe(t *testing.T) { // P5.2
	for n := range 2*api.MaxText + 2 {
		s := strings.Repeat("p", n)
		for i, r := range []api.Rule{
			{Pred: s}, {Home: variable("X"), Pred: s, Body: []api.Literal{{Pred: "q"}}},
			{Pred: "p", Body: []api.Literal{{Pred: s}}}, {Pred: "p", Body: []api.Literal{{Pred: "q"}, {Pred: "q"}, {Pred: s}}},
		} {
			_, e := code.Encode(r)
			if fits := n >= 1 && n <= api.MaxText; fits != (e == api.OK) || !fits && e != api.ErrRule {
				t.Errorf("%d bytes, %d: %d", n, i, int(e))
			}
		}
	}
	refusesRule(t, "no Pred", api.Rule{})
	refusesRule(t, "a long Pred", api.Rule{Pred: longest() + "p"})
}

func TestListsThatMayBe(t *testing.T) { // P5.2
	for _, n := range []int{0, 1, api.MaxWide - 1, api.MaxWide, api.MaxWide + 1, 2 * api.MaxWide, 1000} {
		args := slices.Repeat([]api.Term{variable("X")}, n)
		for i, r := range []api.Rule{{Pred: "p", Args: args}, {Pred: "p", Body: []api.Literal{{Pred: "q", Args: args}}}, {Pred: "p", Body: []api.Literal{{Pred: "q"}, {Pred: "q", Args: args}}}} {
			_, e := code.Encode(r)
			if fits := n <= api.MaxWide; fits != (e == api.OK) || !fits && e != api.ErrRule {
				t.Errorf("%d Args, %d: %d", n, i, int(e))
			}
		}
	}
	for n := range 4 * mostBody {
		_, e := code.Encode(api.Rule{Pred: "p", Body: slices.Repeat([]api.Literal{{Pred: "q"}}, n)})
		if fits := n <= mostBody; fits != (e == api.OK) || !fits && e != api.ErrRule {
			t.Errorf("%d literals: %d", n, int(e))
		}
	}
	refusesRule(t, "many Args", api.Rule{Pred: "p", Args: make([]api.Term, api.MaxWide+1)})
	refusesRule(t, "many literals", api.Rule{Pred: "p", Body: slices.Repeat([]api.Literal{{Pred: "q"}}, mostBody+1)})
}

func TestProgramsThatMayBe(t *testing.T) { // P5.2, P5.4: ErrBig comes first
	ok, bad := api.Rule{Pred: "p"}, api.Rule{}
	for _, n := range []int{0, 1, 2, 63, 64, mostRules - 1, mostRules} {
		l := slices.Repeat([]api.Rule{ok}, n)
		b, e := code.Encode(l...)
		if e != api.OK || !bytes.Equal(b, wantProgram(l)) {
			t.Errorf("%d rules: %d", n, int(e))
		}
		if got, e := code.Decode(b); e != api.OK || !alikeRules(got, l) {
			t.Errorf("%d rules are read: %d, %d", n, len(got), int(e))
		}
	}
	for _, n := range []int{mostRules + 1, mostRules + 2, 5000} {
		l := slices.Repeat([]api.Rule{ok}, n)
		if b, e := code.Encode(l...); b != nil || e != api.ErrBig {
			t.Errorf("%d rules: %d", n, int(e))
		}
		for _, i := range []int{0, mostRules - 1, n - 1} {
			l[i] = bad
			if b, e := code.Encode(l...); b != nil || e != api.ErrBig {
				t.Errorf("%d rules, %d may not be: %d", n, i, int(e))
			}
		}
	}
	l := slices.Repeat([]api.Rule{ok}, mostRules)
	for _, i := range []int{0, 400, mostRules - 1} {
		l[i] = bad
		if b, e := code.Encode(l...); b != nil || e != api.ErrRule {
			t.Errorf("%d may not be: %d", i, int(e))
		}
		l[i] = ok
	}
}

func TestGreatestProgram(t *testing.T) { // P5.4: all that there may be, in time
	r := rules()[len(rules())-1]
	r.Home, r.To, r.Args = r.Body[0].By, r.Body[0].By, r.Body[0].Args
	l := slices.Repeat([]api.Rule{r}, mostRules)
	b := laid(t, l...)
	if got, e := code.Decode(b); e != api.OK || !alikeRules(got, l) {
		t.Error(len(got), int(e))
	}
	if got, e := code.Decode(b[:len(b)-1]); got != nil || e != api.ErrShort {
		t.Error("one byte less:", len(got), int(e))
	}
	if got, e := code.Decode(append(b, 0)); got != nil || e != api.ErrForm {
		t.Error("one byte more:", len(got), int(e))
	}
}

// ahead are bytes with no, little and much spare room behind them, and the whole of that memory.
func ahead() (fronts, wholes [][]byte) {
	for _, b := range [][]byte{nil, {}, {7}, {2, 97, 2, 97, 2, 112, 0}, bytes.Repeat([]byte{255}, 300)} {
		for _, room := range []int{0, 1, 9, 2000} {
			whole := cat(b, bytes.Repeat([]byte{170}, room))
			fronts, wholes = append(fronts, whole[:len(b)]), append(wholes, whole)
		}
	}
	return fronts, wholes
}

func TestPutFactBehind(t *testing.T) { // P5.3, R3
	good := said("a", "b", "p", num(1), text("z"))
	fronts, wholes := ahead()
	for i, b := range fronts {
		before := bytes.Clone(wholes[i])
		got, e := code.PutFact(b, good)
		if e != api.OK || !bytes.Equal(got, cat(b, wantFact(good))) {
			t.Errorf("%d: %v %d", i, got, int(e))
		}
		alone, e := code.PutFact(b, api.Fact{})
		if e != api.ErrFact || !bytes.Equal(alone, b) {
			t.Errorf("%d: alone: %v %d", i, alone, int(e))
		}
		if !bytes.Equal(wholes[i], before) {
			t.Errorf("%d: what was handed in was changed: %v", i, wholes[i])
		}
		for _, answer := range [][]byte{got, alone} {
			answer = answer[:cap(answer)]
			for j := range answer {
				answer[j]++
			}
		}
		if !bytes.Equal(wholes[i], before) {
			t.Errorf("%d: what was answered shares memory: %v", i, wholes[i])
		}
	}
}

func TestPutFactRefuses(t *testing.T) { // P5.3
	l := []api.Fact{
		{}, said("", "b", "p"), said("a", "", "p"), said("a", "b", ""), said(longest()+"x", "b", "p"), said("a", longest()+"x", "p"), said("a", "b", longest()+"x"),
		said("a", "b", "p", slices.Repeat([]api.Const{num(1)}, api.MaxWide+1)...), said("a", "b", "p", slices.Repeat([]api.Const{num(1)}, 1000)...),
	}
	for _, c := range badConsts() {
		l = append(l, said("a", "b", "p", c), said("a", "b", "p", num(1), c), said("a", "b", "p", c, num(1)))
	}
	for _, f := range l {
		if b, e := code.PutFact([]byte{1, 2, 3}, f); e != api.ErrFact || !bytes.Equal(b, []byte{1, 2, 3}) {
			t.Errorf("%+v: %v %d", f, b, int(e))
		}
		if b, e := code.PutFact(nil, f); e != api.ErrFact || len(b) != 0 {
			t.Errorf("%+v, behind nothing: %v %d", f, b, int(e))
		}
	}
}

// readsAs holds Fact against what is wanted.
func readsAs(t *testing.T, b []byte, at int, f api.Fact, next int, e api.Errno) {
	t.Helper()
	gotF, gotNext, gotE := code.Fact(b, at)
	if gotE != e || gotNext != next || !alike(gotF, f) {
		t.Errorf("Fact(%.60v, %d): %+v %d %d, want %+v %d %d", b, at, gotF, gotNext, int(gotE), f, next, int(e))
	}
}

func TestFactAtPlaces(t *testing.T) { // P5.3
	f, g := said("a", "b", "p", num(-5)), said("c", "d", "q", text("zz"), num(64))
	b := cat([]byte{9, 9, 9}, wantFact(f), wantFact(g))
	middle := 3 + len(wantFact(f))
	readsAs(t, b, 3, f, middle, api.OK)
	readsAs(t, b, middle, g, len(b), api.OK)
	readsAs(t, b, len(b), api.Fact{}, 0, api.ErrShort)
	for _, at := range []int{len(b) + 1, len(b) + 2, math.MaxInt, -1, -2, math.MinInt} {
		readsAs(t, b, at, api.Fact{}, 0, api.ErrArg)
	}
	for _, at := range []int{-1, 1, math.MinInt, math.MaxInt} {
		readsAs(t, nil, at, api.Fact{}, 0, api.ErrArg)
	}
	readsAs(t, nil, 0, api.Fact{}, 0, api.ErrShort)
	for at := range b {
		f, next, e := wantReadFact(b, at)
		readsAs(t, b, at, f, next, e)
	}
}

func TestFactBreaksOff(t *testing.T) { // P5.3
	for i, f := range facts() {
		whole := wantFact(f)
		for n := range whole {
			if i%7 != 0 && n < len(whole)-3 {
				continue
			}
			readsAs(t, whole[:n], 0, api.Fact{}, 0, api.ErrShort)
			readsAs(t, whole[:n:n], 0, api.Fact{}, 0, api.ErrShort)
			readsAs(t, cat([]byte{1, 2}, whole[:n]), 2, api.Fact{}, 0, api.ErrShort)
		}
	}
}

func TestFactRefuses(t *testing.T) { // P5.3
	abp := []byte{2, 97, 2, 98, 2, 112}
	long := wantText(strings.Repeat("x", api.MaxText+1))
	ten := bytes.Repeat([]byte{255}, 9)
	for _, c := range []struct {
		b    []byte
		want api.Errno
	}{
		// a number or a text that is not laid in its one way
		{[]byte{130, 0, 97, 2, 98, 2, 112, 0}, api.ErrForm},
		{[]byte{2, 97, 130, 0, 98, 2, 112, 0}, api.ErrForm},
		{[]byte{2, 97, 2, 98, 130, 0, 112, 0}, api.ErrForm},
		{cat(abp, []byte{128, 0}), api.ErrForm},
		{cat(abp, []byte{2, 0, 128, 0}), api.ErrForm},
		{cat(abp, []byte{2, 0}, ten, []byte{2}), api.ErrForm},
		{cat(abp, []byte{2, 1, 130, 0, 97}), api.ErrForm},
		{cat(abp, []byte{4, 0, 2, 0, 128, 128, 0}), api.ErrForm},
		// a text with a negative number of bytes, with too many, and with more than there are
		{[]byte{1, 97, 2, 98, 2, 112, 0}, api.ErrForm},
		{[]byte{2, 97, 1, 2, 112, 0}, api.ErrForm},
		{cat(abp, []byte{2, 1, 1}), api.ErrForm},
		{cat(abp, []byte{2, 1}, wantInt(api.MaxBytes+1)), api.ErrForm},
		{cat(abp, []byte{2, 1}, wantInt(api.MaxBytes)), api.ErrShort},
		{cat(abp, []byte{2, 1, 4, 97}), api.ErrShort},
		// a kind that is none
		{cat(abp, []byte{2, 2}), api.ErrForm},
		{cat(abp, []byte{2, 2, 2}), api.ErrForm},
		{cat(abp, []byte{2, 3, 2, 97}), api.ErrForm},
		{cat(abp, []byte{2, 128, 0}), api.ErrForm},
		{cat(abp, []byte{2, 129, 0, 2, 97}), api.ErrForm},
		{cat(abp, []byte{2, 255}), api.ErrForm},
		{cat(abp, []byte{4, 0, 2, 2, 0, 2}), api.ErrForm},
		// a list that is too long, or of a negative number: told ahead of what stands in it, or does not
		{cat(abp, wantInt(api.MaxWide+1)), api.ErrForm},
		{cat(abp, wantInt(api.MaxWide+1), bytes.Repeat([]byte{0, 2}, api.MaxWide+1)), api.ErrForm},
		{cat(abp, wantInt(math.MaxInt)), api.ErrForm},
		{cat(abp, wantInt(-1)), api.ErrForm},
		{cat(abp, wantInt(-1), []byte{0, 2}), api.ErrForm},
		{cat(abp, wantInt(math.MinInt)), api.ErrForm},
		{cat(abp, wantInt(api.MaxWide)), api.ErrShort},
		// no kind, no number
		{cat(abp, []byte{2}), api.ErrShort},
		{cat(abp, []byte{2, 0}), api.ErrShort},
		{cat(abp, []byte{2, 1}), api.ErrShort},
		// no fact: behind all of it
		{[]byte{0, 2, 98, 2, 112, 0}, api.ErrFact},
		{[]byte{2, 97, 0, 2, 112, 0}, api.ErrFact},
		{[]byte{2, 97, 2, 98, 0, 0}, api.ErrFact},
		{[]byte{0, 0, 0, 0}, api.ErrFact},
		{cat(long, []byte{2, 98, 2, 112, 0}), api.ErrFact},
		{cat([]byte{2, 97}, long, []byte{2, 112, 0}), api.ErrFact},
		{cat([]byte{2, 97, 2, 98}, long, []byte{0}), api.ErrFact},
		{cat(abp, []byte{2, 1, 0}), api.ErrFact},
		{cat(abp, []byte{2, 1}, long), api.ErrFact},
		{cat(abp, []byte{4, 1, 0, 0, 2}), api.ErrFact},
		{wantFact(said(strings.Repeat("x", api.MaxBytes), "b", "p")), api.ErrFact},
		{wantFact(said(strings.Repeat("x", api.MaxBytes+1), "b", "p")), api.ErrForm},
		{[]byte{0}, api.ErrShort},
		{[]byte{0, 2, 98, 2, 112}, api.ErrShort},
		{[]byte{0, 2, 98, 2, 112, 2, 0}, api.ErrShort},
		{[]byte{0, 2, 98, 2, 112, 2, 7}, api.ErrForm},
		{[]byte{0, 2, 98, 2, 112, 98}, api.ErrForm},
		{cat(long, []byte{2, 98, 130, 0}), api.ErrForm},
		{cat(abp, []byte{4, 1, 0, 3}), api.ErrForm},
		{cat(abp, []byte{4, 1, 0, 1}), api.ErrShort},
	} {
		readsAs(t, c.b, 0, api.Fact{}, 0, c.want)
		readsAs(t, cat([]byte{2, 2, 2}, c.b), 3, api.Fact{}, 0, c.want)
		f, next, e := wantReadFact(c.b, 0)
		readsAs(t, c.b, 0, f, next, e)
	}
}

func TestDecodeBreaksOff(t *testing.T) { // P5.4
	breaks := func(whole []byte) {
		t.Helper()
		for n := range whole {
			if l, e := code.Decode(whole[:n]); l != nil || e != api.ErrShort {
				t.Fatalf("%v: %+v %d", whole[:n], l, int(e))
			}
			if l, e := code.Decode(whole[:n:n]); l != nil || e != api.ErrShort {
				t.Fatalf("%v: %+v %d", whole[:n], l, int(e))
			}
		}
	}
	if l, e := code.Decode(nil); l != nil || e != api.ErrShort {
		t.Error("nothing:", l, int(e))
	}
	for _, r := range rules() {
		if whole := wantProgram([]api.Rule{r}); len(whole) < 500 {
			breaks(whole)
		}
	}
	breaks(wantProgram(places(variable("V"))[:7]))
	breaks(wantProgram(rules()[20:30]))
	for _, x := range goodTerms() {
		breaks(wantProgram([]api.Rule{{Home: x, Pred: "p", To: x, Body: []api.Literal{{By: x, Pred: "q", Args: []api.Term{x}, At: x}}}}))
	}
}

func TestDecodeLeft(t *testing.T) { // P5.4
	for _, l := range [][]api.Rule{nil, {{Pred: "p"}}, rules()[:9], places(variable("V"))} {
		for _, left := range [][]byte{{0}, {2}, {128}, {255, 0}, {0, 2, 112, 0, 0, 0}} {
			if got, e := code.Decode(cat(wantProgram(l), left)); got != nil || e != api.ErrForm {
				t.Errorf("%d rules, %v behind them: %d", len(l), left, int(e))
			}
		}
	}
}

// someOf is a list's number of elements and, if it is not huge, as many elements.
func someOf(n int, one []byte) []byte {
	if n < 0 || n > 10000 {
		return wantInt(n)
	}
	return cat(wantInt(n), bytes.Repeat(one, n))
}

func TestDecodeLists(t *testing.T) { // P5.4: too long, or of a negative number
	rule, term, literal := []byte{0, 2, 112, 0, 0, 0}, []byte{1, 2, 88}, []byte{0, 2, 113, 0, 0}
	for _, c := range []struct {
		most             int
		front, one, back []byte
	}{
		{mostRules, nil, rule, nil},
		{api.MaxWide, []byte{2, 0, 2, 112}, term, []byte{0, 0}},
		{mostBody, []byte{2, 0, 2, 112, 0, 0}, literal, nil},
		{api.MaxWide, []byte{2, 0, 2, 112, 0, 0, 2, 0, 2, 113}, term, []byte{0}},
	} {
		for _, n := range []int{0, 1, c.most - 1, c.most} {
			if l, e := code.Decode(cat(c.front, someOf(n, c.one), c.back)); e != api.OK || !bytes.Equal(laid(t, l...), cat(c.front, someOf(n, c.one), c.back)) {
				t.Errorf("%d of %d: %d", n, c.most, int(e))
			}
		}
		for _, n := range []int{c.most + 1, c.most + 2, 2 * c.most, 9000, math.MaxInt, -1, -2, math.MinInt} {
			for _, b := range [][]byte{cat(c.front, someOf(n, c.one), c.back), cat(c.front, wantInt(n))} {
				if l, e := code.Decode(b); l != nil || e != api.ErrForm {
					t.Errorf("%d of %d: %d", n, c.most, int(e))
				}
			}
		}
		if l, e := code.Decode(cat(c.front, []byte{130, 0}, c.one, c.back)); l != nil || e != api.ErrForm {
			t.Errorf("1 in two bytes: %d", int(e))
		}
		if l, e := code.Decode(cat(c.front, wantInt(c.most))); l != nil || e != api.ErrShort {
			t.Errorf("%d that are not there: %d", c.most, int(e))
		}
	}
}

// termPlaces are what stands ahead of a term and behind it in the bytes of a rule, for each place where one can stand.
func termPlaces() [][2][]byte {
	return [][2][]byte{
		{{}, {2, 112, 0, 0, 0}},
		{{0, 2, 112, 2}, {0, 0}},
		{{0, 2, 112, 6, 1, 2, 88, 0}, {0, 0}},
		{{0, 2, 112, 0}, {0}},
		{{0, 2, 112, 0, 0, 2}, {2, 113, 0, 0}},
		{{0, 2, 112, 0, 0, 2, 0, 2, 113, 2}, {0}},
		{{0, 2, 112, 0, 0, 4, 0, 2, 113, 0, 0, 0, 2, 113, 4, 0}, {0}},
		{{0, 2, 112, 0, 0, 2, 0, 2, 113, 0}, {}},
	}
}

func TestDecodeTerms(t *testing.T) { // P5.1, P5.2, P5.4: each place of a term in turn
	long := wantText(strings.Repeat("x", api.MaxText+1))
	for i, p := range termPlaces() {
		reads := func(term []byte, want api.Errno) {
			t.Helper()
			b := cat([]byte{2}, p[0], term, p[1])
			if l, e := code.Decode(b); e != want || (e != api.OK) != (l == nil) {
				t.Errorf("%d, %.40v: %d, want %d", i, term, int(e), int(want))
			} else if e == api.OK && !bytes.Equal(wantProgram(l), b) {
				t.Errorf("%d, %.40v: %+v", i, term, l)
			}
		}
		for _, x := range goodTerms() {
			reads(wantTerm(x), api.OK)
		}
		reads([]byte{1, 0}, api.ErrRule)    // a variable of 0 bytes is not none
		reads([]byte{2, 1, 0}, api.ErrRule) // nor is a text of 0 bytes
		reads(cat([]byte{1}, long), api.ErrRule)
		reads(cat([]byte{2, 1}, long), api.ErrRule)
		reads(cat([]byte{1}, wantText(strings.Repeat("x", api.MaxBytes))), api.ErrRule)
		reads(cat([]byte{1}, wantText(strings.Repeat("x", api.MaxBytes+1))), api.ErrForm)
		for kind := range 256 {
			if kind > 2 {
				reads([]byte{byte(kind)}, api.ErrForm)
				reads([]byte{byte(kind), 2, 88}, api.ErrForm)
			}
			if kind > 1 {
				reads([]byte{2, byte(kind)}, api.ErrForm)
				reads([]byte{2, byte(kind), 2, 88}, api.ErrForm)
			}
		}
		reads([]byte{1, 1}, api.ErrForm)
		reads([]byte{1, 130, 0, 88}, api.ErrForm)
		reads([]byte{2, 0, 128, 0}, api.ErrForm)
		reads([]byte{2, 1, 130, 0, 88}, api.ErrForm)
	}
}

func TestDecodeFirstError(t *testing.T) { // P5.4: from the left on, ErrRule behind the rule
	ok := []byte{0, 2, 112, 0, 0, 0}
	long := wantText(strings.Repeat("x", api.MaxText+1))
	unlaid := [][]byte{
		{0, 0, 0, 0, 0}, {1, 0, 2, 112, 0, 0, 0}, {0, 2, 112, 2, 1, 0, 0, 0}, {0, 2, 112, 0, 2, 1, 0, 0},
		{0, 2, 112, 0, 0, 2, 0, 0, 0, 0}, {0, 2, 112, 0, 0, 2, 0, 2, 113, 2, 2, 1, 0, 0}, {0, 2, 112, 0, 0, 4, 1, 0, 2, 113, 0, 0, 0, 2, 113, 0, 0},
		cat([]byte{0}, long, []byte{0, 0, 0}), cat([]byte{0, 2, 112, 0, 0, 2, 0}, long, []byte{0, 0}), cat([]byte{1}, long, []byte{2, 112, 0, 0, 0}),
	}
	unread := []struct {
		b []byte
		e api.Errno
	}{{nil, api.ErrShort}, {[]byte{0, 4, 112}, api.ErrShort}, {[]byte{3}, api.ErrForm}, {[]byte{0, 130, 0}, api.ErrForm}, {[]byte{0, 2, 112, 98}, api.ErrForm}}
	decodes := func(what string, want api.Errno, parts ...[]byte) {
		t.Helper()
		if l, e := code.Decode(cat(parts...)); l != nil || e != want {
			t.Errorf("%s: %.60v: %d, want %d", what, cat(parts...), int(e), int(want))
		}
	}
	for _, u := range unlaid {
		decodes("alone", api.ErrRule, []byte{2}, u)
		decodes("with bytes left", api.ErrRule, []byte{2}, u, []byte{9, 9})
		decodes("behind another", api.ErrRule, []byte{4}, ok, u)
		decodes("ahead of another", api.ErrRule, []byte{4}, u, ok)
		for _, x := range unread {
			decodes("ahead of bytes that can't be read", api.ErrRule, []byte{4}, u, x.b)
			decodes("behind bytes that can't be read", x.e, []byte{4}, x.b)
			if x.b != nil && x.e == api.ErrForm {
				decodes("behind bytes that can't be read", x.e, []byte{6}, ok, x.b, u)
			}
		}
		for n := range u {
			decodes("broken off", api.ErrShort, []byte{2}, u[:n])
		}
		decodes("one of too many", api.ErrForm, wantInt(mostRules+1), u)
	}
	// in one rule what can't be read is told first, though it stands behind what may not be
	decodes("no Home's name, then no kind", api.ErrForm, []byte{2, 1, 0, 2, 112, 0, 3, 0})
	decodes("no Pred, then too long a Body", api.ErrForm, []byte{2, 0, 0, 0, 0, 12})
	decodes("no Pred, then a literal's end", api.ErrShort, []byte{2, 0, 0, 0, 0, 2, 0, 2, 113, 0})
	decodes("no text, then 1 in two bytes", api.ErrForm, []byte{2, 0, 2, 112, 4, 2, 1, 0, 1, 130, 0, 88, 0, 0})
}

// checkBytes holds Fact and Decode of any bytes against the words, and lays what was read again.
func checkBytes(t *testing.T, b []byte, at int) {
	t.Helper()
	before := bytes.Clone(b)
	f, next, e := wantReadFact(b, at)
	readsAs(t, b, at, f, next, e)
	if e == api.OK {
		if again, e := code.PutFact(b[:at], f); e != api.OK || !bytes.Equal(again, b[:next]) {
			t.Errorf("%v, %d: laid again as %v", b, at, again)
		}
	}
	want, e := wantDecode(b)
	l, got := code.Decode(b)
	if got != e || !alikeRules(l, want) || e != api.OK && l != nil {
		t.Errorf("Decode(%v): %+v %d, want %+v %d", b, l, int(got), want, int(e))
	}
	if got == api.OK {
		if again, e := code.Encode(l...); e != api.OK || !bytes.Equal(again, b) {
			t.Errorf("%v: laid again as %v", b, again)
		}
	}
	if !bytes.Equal(b, before) {
		t.Errorf("%v became %v", before, b)
	}
}

func TestAllShortBytes(t *testing.T) { // P5.3, P5.4, P5.5: all of a few bytes, behind some beginnings
	letters := []byte{0, 1, 2, 3, 4, 97, 128}
	var each func(b []byte, more int)
	each = func(b []byte, more int) {
		checkBytes(t, b, 0)
		if more == 0 || t.Failed() {
			return
		}
		for _, c := range letters {
			each(append(b[:len(b):len(b)], c), more-1)
		}
	}
	each(nil, 5)
	each([]byte{2, 97, 2, 98}, 5)   // a fact's Pred and Args
	each([]byte{2}, 5)              // a rule
	each([]byte{2, 0, 2, 97}, 5)    // its Args, To and Body
	each([]byte{2, 0, 2, 97, 0}, 5) // its To and Body
	each([]byte{4, 0, 2, 97, 0}, 4) // of two
	each([]byte{2, 0, 2, 97, 0, 0, 2}, 5)
}

func TestAlteredBytes(t *testing.T) { // P5.3, P5.4, P5.5: each byte in turn other, lacking, or twice
	var l [][]byte
	for i, f := range facts() {
		if b := wantFact(f); i%5 == 0 && len(b) < 100 {
			l = append(l, b)
		}
	}
	for i := range rules() {
		if b := wantProgram(rules()[i:min(i+1+i%3, len(rules()))]); len(b) < 200 {
			l = append(l, b)
		}
	}
	for _, b := range l {
		for i := range b {
			for _, c := range []byte{0, 1, 2, 3, 5, 10, 12, 63, 64, 66, 96, 98, 127, 128, 129, 255, b[i] + 1, b[i] - 1, b[i] + 2} {
				other := bytes.Clone(b)
				other[i] = c
				checkBytes(t, other, 0)
			}
			checkBytes(t, slices.Delete(bytes.Clone(b), i, i+1), 0)
			checkBytes(t, slices.Insert(bytes.Clone(b), i, b[i]), 0)
			checkBytes(t, b, i)
		}
	}
}

func TestFactsThereAndBack(t *testing.T) { // P5.5
	var all []byte
	for _, f := range facts() {
		b, e := code.PutFact(nil, f)
		if e != api.OK {
			t.Fatalf("%+v: %d", f, int(e))
		}
		readsAs(t, b, 0, f, len(b), api.OK)
		readsAs(t, append(b, 0, 255), 0, f, len(b), api.OK)
		if all, e = code.PutFact(all, f); e != api.OK {
			t.Fatalf("%+v behind others: %d", f, int(e))
		}
	}
	at := 0
	for _, want := range facts() {
		f, next, e := code.Fact(all, at)
		if e != api.OK || !alike(f, want) {
			t.Fatalf("at %d: %+v %d, want %+v", at, f, int(e), want)
		}
		if again, e := code.PutFact(nil, f); e != api.OK || !bytes.Equal(again, all[at:next]) {
			t.Fatalf("at %d: laid again as %v", at, again)
		}
		at = next
	}
	if at != len(all) {
		t.Error("the last one ends at", at, "of", len(all))
	}
}

func TestNoBeginning(t *testing.T) { // P5.5: unlike facts have unlike bytes, and none is a beginning of another one's
	var l [][]byte
	for _, f := range facts() {
		b, _ := code.PutFact(nil, f)
		l = append(l, b)
	}
	for i, a := range l {
		for j, b := range l {
			if i != j && bytes.HasPrefix(a, b) {
				t.Errorf("%+v begins as %+v", facts()[i], facts()[j])
			}
		}
	}
}

func TestProgramsThereAndBack(t *testing.T) { // P5.5
	all := rules()
	programs := [][]api.Rule{nil, all, places(variable("V"))}
	for i := range all {
		programs = append(programs, all[i:i+1], all[i:min(i+3, len(all))])
	}
	for _, x := range goodTerms() {
		programs = append(programs, places(x))
	}
	for _, l := range programs {
		b := laid(t, l...)
		got, e := code.Decode(b)
		if e != api.OK || !alikeRules(got, l) {
			t.Fatalf("%+v: %+v %d", l, got, int(e))
		}
		if again := laid(t, got...); !bytes.Equal(again, b) {
			t.Fatalf("%+v: laid again as %v", l, again)
		}
	}
	for i, a := range all {
		for j, b := range all {
			if i != j && bytes.HasPrefix(laid(t, a), laid(t, b)) {
				t.Errorf("%d, %d: %+v, %+v", i, j, a, b)
			}
		}
	}
}

func TestSameFact(t *testing.T) { // P5.4: each field in turn other
	f := said("a", "b", "p", num(1), text("x"))
	l := []api.Fact{
		f, said("c", "b", "p", num(1), text("x")), said("a", "c", "p", num(1), text("x")), said("a", "b", "q", num(1), text("x")),
		said("b", "a", "p", num(1), text("x")), said("a", "b", "p"), said("a", "b", "p", num(1)), said("a", "b", "p", text("x"), num(1)),
		said("a", "b", "p", num(1), text("x"), num(1)), said("a", "b", "p", num(2), text("x")), said("a", "b", "p", num(1), text("y")),
		said("a", "b", "p", text("1"), text("x")), said("a", "b", "p", api.Const{N: 1}, text("x")), said("a", "b", "p", num(1), api.Const{S: "x", N: 1}),
		said("a", "b", "p", num(1), api.Const{S: "x", Num: true}), {}, said("", "", "", api.Const{}), said("a", "b", "p", api.Const{}), said("a", "b", "p", num(0)),
		said("a", "b", "p", slices.Repeat([]api.Const{num(1)}, 100)...), said("a", "b", "p", slices.Repeat([]api.Const{num(1)}, 99)...),
	}
	for i, a := range l {
		for j, b := range l {
			b.Args = slices.Clone(b.Args)
			if got := code.SameFact(a, b); got != (i == j) {
				t.Errorf("%+v, %+v: %v", a, b, got)
			}
		}
	}
	none, empty := api.Fact{At: "a"}, api.Fact{At: "a", Args: []api.Const{}}
	if !code.SameFact(none, empty) || !code.SameFact(empty, none) || !code.SameFact(empty, empty) || !code.SameFact(none, none) {
		t.Error("nil and empty Args")
	}
}

func TestSameRule(t *testing.T) { // P5.4: each field in turn other
	x, y := variable("X"), variable("Y")
	terms := func(l ...api.Term) []api.Term { return l }
	rule := func(change func(r *api.Rule)) api.Rule {
		q := func() api.Literal { return api.Literal{By: x, Pred: "q", Args: terms(x, y), At: y} }
		r := api.Rule{Home: x, Pred: "p", Args: terms(x, y), To: y, Body: []api.Literal{q(), q()}}
		change(&r)
		return r
	}
	changes := []func(r *api.Rule){
		func(r *api.Rule) {},
		func(r *api.Rule) { r.Home = y },
		func(r *api.Rule) { r.Home = api.Term{} },
		func(r *api.Rule) { r.Home = value(text("X")) },
		func(r *api.Rule) { r.Home.Val = num(1) },
		func(r *api.Rule) { r.Home.Val.N = 1 },
		func(r *api.Rule) { r.Pred = "q" },
		func(r *api.Rule) { r.Pred = "" },
		func(r *api.Rule) { r.Args = nil },
		func(r *api.Rule) { r.Args = terms(x) },
		func(r *api.Rule) { r.Args = terms(y, x) },
		func(r *api.Rule) { r.Args = terms(x, y, y) },
		func(r *api.Rule) { r.Args = terms(x, y, api.Term{}) },
		func(r *api.Rule) { r.Args[1] = x },
		func(r *api.Rule) { r.To = x },
		func(r *api.Rule) { r.To = api.Term{} },
		func(r *api.Rule) { r.To.Val.S = "Y" },
		func(r *api.Rule) { r.Home, r.To = y, x },
		func(r *api.Rule) { r.Body = nil },
		func(r *api.Rule) { r.Body = r.Body[:1] },
		func(r *api.Rule) { r.Body = append(r.Body, r.Body[0]) },
		func(r *api.Rule) { r.Body = append(r.Body, api.Literal{}) },
		func(r *api.Rule) { r.Body[0].By = y },
		func(r *api.Rule) { r.Body[1].By = y },
		func(r *api.Rule) { r.Body[0].By = api.Term{} },
		func(r *api.Rule) { r.Body[0].Pred = "r" },
		func(r *api.Rule) { r.Body[1].Pred = "r" },
		func(r *api.Rule) { r.Body[0].Args = nil },
		func(r *api.Rule) { r.Body[1].Args = terms(x) },
		func(r *api.Rule) { r.Body[1].Args = terms(x, x) },
		func(r *api.Rule) { r.Body[1].Args = terms(x, y, x) },
		func(r *api.Rule) { r.Body[0].At = x },
		func(r *api.Rule) { r.Body[1].At = x },
		func(r *api.Rule) { r.Body[1].At = api.Term{} },
		func(r *api.Rule) { r.Body[0].By, r.Body[0].At = y, x },
		func(r *api.Rule) { *r = api.Rule{} },
		func(r *api.Rule) { *r = api.Rule{Args: terms(api.Term{})} },
		func(r *api.Rule) { *r = api.Rule{Body: []api.Literal{{}}} },
		func(r *api.Rule) { *r = api.Rule{Body: []api.Literal{{}, {}}} },
	}
	for i, a := range changes {
		for j, b := range changes {
			if got := code.SameRule(rule(a), rule(b)); got != (i == j) {
				t.Errorf("%d, %d: %v", i, j, got)
			}
		}
	}
	none := api.Rule{Pred: "p", Body: []api.Literal{{Pred: "q"}}}
	empty := api.Rule{Pred: "p", Args: terms(), Body: []api.Literal{{Pred: "q", Args: []api.Term{}}}}
	if !code.SameRule(none, empty) || !code.SameRule(empty, none) || !code.SameRule(api.Rule{}, api.Rule{Body: []api.Literal{}}) {
		t.Error("nil and empty lists")
	}
}

// roomy is a program with spare room behind each of its lists.
func roomy() []api.Rule {
	x, spare := variable("X"), value(text("spare"))
	args := func(l ...api.Term) []api.Term { return append(l, spare, spare)[:len(l)] }
	q := func() api.Literal { return api.Literal{By: x, Pred: "q", Args: args(x, x), At: x} }
	body := func(l ...api.Literal) []api.Literal { return append(l, api.Literal{Pred: "spare"}, q())[:len(l)] }
	l := []api.Rule{
		{Home: x, Pred: "p", Args: args(x, value(num(1))), To: x, Body: body(q(), q())},
		{Home: x, Pred: "p", Args: args(), Body: body()},
		{Pred: "r", Args: args(x), Body: body(q())},
	}
	return append(l, api.Rule{Pred: "spare"})[:len(l)]
}

// deep is all of a program's memory as values, the spare room too.
func deep(l []api.Rule) []api.Rule {
	var d []api.Rule
	for _, r := range l[:cap(l)] {
		r.Args = slices.Clone(r.Args[:cap(r.Args)])
		r.Body = slices.Clone(r.Body[:cap(r.Body)])
		for i := range r.Body {
			r.Body[i].Args = slices.Clone(r.Body[i].Args[:cap(r.Body[i].Args)])
		}
		d = append(d, r)
	}
	return d
}

func TestNotChanged(t *testing.T) { // R3: what is handed in
	l, bad := roomy(), roomy()
	bad[2].Pred = ""
	before, beforeBad := deep(l), deep(bad)
	b := laid(t, l...)
	code.Encode(bad...)
	code.SameRule(l[0], bad[0])
	if !reflect.DeepEqual(deep(l), before) || !reflect.DeepEqual(deep(bad), beforeBad) {
		t.Errorf("changed: %+v, %+v", deep(l), deep(bad))
	}
	args := []api.Const{num(1), text("x"), text("spare"), num(7)}
	f := said("a", "b", "p", args[:2]...)
	code.PutFact(nil, f)
	code.SameFact(f, f)
	if !slices.Equal(args, []api.Const{num(1), text("x"), text("spare"), num(7)}) {
		t.Errorf("changed: %+v", args)
	}
	whole := cat(b, bytes.Repeat([]byte{170}, 100))
	mine := bytes.Clone(whole)
	code.Decode(whole[:len(b)])
	code.Decode(whole[:len(b)-1])
	code.Fact(whole[:len(b)], 1)
	if !bytes.Equal(whole, mine) {
		t.Errorf("changed: %v", whole)
	}
}

func TestNewMemory(t *testing.T) { // R3: what is answered
	l := roomy()
	b := laid(t, l...)
	want := bytes.Clone(b)
	got, _ := code.Decode(b)
	for i := range b {
		b[i] = 'Z'
	}
	if !alikeRules(got, l) {
		t.Errorf("a program shares its bytes: %+v", got)
	}
	if again := laid(t, l...); !bytes.Equal(again, want) {
		t.Errorf("two answers share memory: %v", again)
	}
	f := said("a", "b", "p", num(1), text("x"))
	b = wantFact(f)
	read, _, _ := code.Fact(b, 0)
	for i := range b {
		b[i] = 'Z'
	}
	if !alike(read, f) {
		t.Errorf("a fact shares its bytes: %+v", read)
	}
}

// lists are all lists of terms of a program.
func lists(l []api.Rule) (all [][]api.Term) {
	for _, r := range l {
		all = append(all, r.Args)
		for _, q := range r.Body {
			all = append(all, q.Args)
		}
	}
	return all
}

func TestApart(t *testing.T) { // R3: no two lists of one answer, and no two answers, share memory
	b := laid(t, append(rules()[:60], roomy()...)...)
	one, _ := code.Decode(b)
	two, _ := code.Decode(b)
	count := 0
	for _, l := range append(lists(one), lists(two)...) {
		l = l[:cap(l)]
		for i := range l {
			if l[i].Val.N == -77 {
				t.Fatal("a term is of two lists")
			}
			l[i] = value(num(-77))
			count++
		}
	}
	if count == 0 {
		t.Error("there are no terms")
	}
	for _, p := range [][]api.Rule{one, two} {
		for _, r := range p {
			body := r.Body[:cap(r.Body)]
			for i := range body {
				if body[i].Pred == "over" {
					t.Fatal("a literal is of two bodies")
				}
				body[i].Pred = "over"
			}
		}
	}
	f, _, _ := code.Fact(wantFact(said("a", "b", "p", num(1), num(2), num(3))), 0)
	g, _, _ := code.Fact(wantFact(said("a", "b", "p", num(1), num(2), num(3))), 0)
	f.Args[0] = num(9)
	if g.Args[0] != num(1) {
		t.Error("two facts share memory")
	}
}

func FuzzBytes(f *testing.F) { // P5.3, P5.4, P5.5: held against the words
	for _, x := range facts()[:40] {
		f.Add(wantFact(x), 0)
	}
	for _, r := range rules()[:60] {
		f.Add(wantProgram([]api.Rule{r, r}), 1)
	}
	f.Add([]byte{}, -1)
	f.Add([]byte{2, 1, 0, 2, 112, 0, 0, 0}, 9)
	f.Fuzz(func(t *testing.T, b []byte, at int) {
		checkBytes(t, b, at)
	})
}
