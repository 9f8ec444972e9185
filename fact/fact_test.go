package fact_test

import (
	"math"
	"reflect"
	"slices"
	"strings"
	"testing"

	"avowal/api"
	"avowal/fact"
)

func num(n int) api.Const { return api.Const{Num: true, N: n} }

func text(s string) api.Const { return api.Const{S: s} }

func said(at, by, pred string, args ...api.Const) api.Fact {
	return api.Fact{At: at, By: by, Pred: pred, Args: args}
}

// longest is the longest text that may be.
func longest() string { return strings.Repeat("x", api.MaxText) }

// words are texts that may be, in order.
func words() []string {
	return []string{"\x00", "1", "5", "a", "a\x00", "aa", "ab", "b", "~", "\x7f", "\x80", "é", "\xff", "\xff\xff"}
}

// consts are constants in order, those that may not be among them.
func consts() []api.Const {
	return []api.Const{
		{Num: true, N: math.MinInt}, {Num: true, N: math.MinInt, S: "a"}, num(math.MinInt + 1), num(math.MinInt32 - 1), num(-1),
		num(0), {Num: true, S: "\x7f"}, {Num: true, S: "\x80"}, num(1), num(5), num(9), num(10), num(math.MaxInt - 1), num(math.MaxInt),
		{N: math.MinInt}, {N: math.MinInt, S: "z"}, {N: -1, S: "z"},
		{}, text("\x00"), text("10"), text("5"), text("9"), text("a"), text("a\x00"), text("aa"), text("b"), text("~"), text("\x7f"), text("\x80"), text("\xff"), text("\xff\x00"),
		{N: 1}, {N: 1, S: "a"}, {N: math.MaxInt, S: "a"},
	}
}

// lists are Args in order.
func lists() [][]api.Const {
	one, two, a := num(1), num(2), text("a")
	return [][]api.Const{
		{}, {one}, {one, one}, {one, one, one}, {one, two}, {one, a}, {two}, {two, one}, {a}, {a, one}, {a, a},
		slices.Repeat([]api.Const{a}, api.MaxWide), slices.Repeat([]api.Const{a}, api.MaxWide+1),
	}
}

// facts are many facts in order, those that may not be among them.
func facts() []api.Fact {
	var l []api.Fact
	names := []string{"", "a", "a\x00", "ab", "b", "\x80"}
	for _, at := range names {
		for _, by := range names {
			for _, pred := range []string{"p", "pp", "q"} {
				for _, args := range lists() {
					l = append(l, said(at, by, pred, args...))
				}
			}
		}
	}
	return l
}

// few are some of facts, in order: of each kind of difference there are neighbours.
func few() []api.Fact {
	var l []api.Fact
	for i, f := range facts() {
		if i%11 == 0 || i%23 == 1 {
			l = append(l, f)
		}
	}
	return l
}

// alike is P4.4's being the same, field by field, without any call of the package.
func alike(a, b api.Fact) bool {
	return a.At == b.At && a.By == b.By && a.Pred == b.Pred && slices.Equal(a.Args, b.Args)
}

// wantHas is P4.3's Has by its words.
func wantHas(l []api.Fact, f api.Fact) bool {
	for _, g := range l {
		if alike(g, f) {
			return true
		}
	}
	return false
}

// wantSorted puts one after the other where it belongs; by Order, which is held against lists in order elsewhere.
func wantSorted(l []api.Fact) []api.Fact {
	var s []api.Fact
	for _, f := range l {
		if wantHas(s, f) {
			continue
		}
		i := 0
		for i < len(s) && fact.Order(s[i], f) < 0 {
			i++
		}
		s = slices.Insert(s, i, f)
	}
	return s
}

func wantMinus(a, b []api.Fact) []api.Fact {
	var l []api.Fact
	for _, f := range wantSorted(a) {
		if !wantHas(b, f) {
			l = append(l, f)
		}
	}
	return l
}

func wantSame(a, b []api.Fact) bool {
	for _, f := range a {
		if !wantHas(b, f) {
			return false
		}
	}
	for _, f := range b {
		if !wantHas(a, f) {
			return false
		}
	}
	return true
}

func sameList(a, b []api.Fact) bool { return slices.EqualFunc(a, b, alike) }

func sign(n int) int {
	switch {
	case n < 0:
		return -1
	case n > 0:
		return 1
	}
	return 0
}

func TestGood(t *testing.T) { // P4.1
	good := []api.Const{
		num(0), num(1), num(-1), num(math.MinInt), num(math.MaxInt),
		text("a"), text("5"), text("\x00"), text("\xff"), text(longest()), text(strings.Repeat("é", api.MaxText/2)),
	}
	for _, c := range good {
		if !fact.Good(c) {
			t.Errorf("%+v may be", c)
		}
	}
	bad := []api.Const{
		{}, {Num: true, S: "a"}, {Num: true, N: 5, S: "5"}, {Num: true, S: longest()}, {Num: true, S: "\x00"},
		{N: 1}, {N: 1, S: "a"}, {N: -1, S: "a"}, {N: math.MinInt, S: "a"}, {N: math.MaxInt, S: longest()},
		text(longest() + "x"), text(strings.Repeat("x", api.MaxBytes)), text(strings.Repeat("é", api.MaxText/2) + "x"),
		text(strings.Repeat("é", api.MaxText/2+1)), text(strings.Repeat("é", api.MaxText)),
	}
	for _, c := range bad {
		if fact.Good(c) {
			t.Errorf("%+v may not be", c)
		}
	}
	for n := range 2*api.MaxText + 2 {
		if got := fact.Good(text(strings.Repeat("y", n))); got != (n >= 1 && n <= api.MaxText) {
			t.Error("a text of", n, "bytes:", got)
		}
	}
}

func TestCheckGood(t *testing.T) { // P4.1
	long := longest()
	for _, f := range []api.Fact{
		said("a", "a", "p"), said("a", "b", "p", num(1)), said(long, long, long, text(long)),
		said("\xff", "\x00", "~ask0.1", num(math.MinInt), text("é")),
		said("a", "b", "p", slices.Repeat([]api.Const{num(1)}, api.MaxWide)...),
		said("a", "b", "p", slices.Repeat([]api.Const{text(long)}, api.MaxWide-1)...),
		{At: "a", By: "b", Pred: "p", Args: []api.Const{}},
	} {
		if e := fact.Check(f); e != api.OK {
			t.Errorf("%+v: %d", f, e)
		}
	}
}

func TestCheckTexts(t *testing.T) { // P4.1: each text in turn
	for n := range 2*api.MaxText + 2 {
		s, want := strings.Repeat("z", n), api.OK
		if n < 1 || n > api.MaxText {
			want = api.ErrFact
		}
		for _, f := range []api.Fact{
			said(s, "b", "p", num(1)), said("a", s, "p", num(1)), said("a", "b", s, num(1)), said("a", "b", "p", text(s)),
		} {
			if e := fact.Check(f); e != want {
				t.Errorf("%d bytes, %+v: %d", n, f, e)
			}
		}
	}
	if e := fact.Check(api.Fact{}); e != api.ErrFact {
		t.Error("the zero fact:", e)
	}
}

func TestCheckArgs(t *testing.T) { // P4.1: how many, and one among many
	for n := range 2*api.MaxWide + 2 {
		want := api.OK
		if n > api.MaxWide {
			want = api.ErrFact
		}
		if e := fact.Check(said("a", "b", "p", slices.Repeat([]api.Const{text("c")}, n)...)); e != want {
			t.Error(n, "arguments:", e)
		}
	}
	for _, n := range []int{1, 2, 3, api.MaxWide - 1, api.MaxWide} {
		for i := range n {
			for _, bad := range []api.Const{{}, {N: 1, S: "a"}, {Num: true, S: "a"}, text(longest() + "x")} {
				args := slices.Repeat([]api.Const{num(1)}, n)
				args[i] = bad
				if e := fact.Check(said("a", "b", "p", args...)); e != api.ErrFact {
					t.Errorf("argument %d of %d is %+v: %d", i, n, bad, e)
				}
			}
		}
	}
}

func TestCompare(t *testing.T) { // P4.2
	if o := fact.Compare(num(5), text("5")); o != -1 {
		t.Error("5 and the text 5:", o)
	}
	l := consts()
	for i, a := range l {
		for j, b := range l {
			if o := fact.Compare(a, b); o != sign(i-j) {
				t.Errorf("%+v, %+v: %d", a, b, o)
			}
		}
	}
}

func TestCompareBytes(t *testing.T) { // P4.2: texts by their bytes
	for i, a := range words() {
		for j, b := range words() {
			if o := fact.Compare(text(a), text(b)); o != sign(strings.Compare(a, b)) {
				t.Errorf("%d, %d: %q, %q: %d", i, j, a, b, o)
			}
		}
	}
}

func TestOrder(t *testing.T) { // P4.2: each field ahead of all behind it
	l := facts()
	for i := range l {
		for _, j := range []int{0, i / 2, i - 13, i - 1, i, i + 1, i + 13, (i + len(l)) / 2, len(l) - 1} {
			if j < 0 || j >= len(l) {
				continue
			}
			if o := fact.Order(l[i], l[j]); o != sign(i-j) {
				t.Fatalf("%+v, %+v: %d", l[i], l[j], o)
			}
		}
	}
}

func TestOrderFields(t *testing.T) { // P4.2: texts of facts by their bytes, and what decides
	for _, a := range words() {
		for _, b := range words() {
			want := sign(strings.Compare(a, b))
			low, high := text("a"), text("b")
			for _, got := range []int{
				fact.Order(said(a, "z", "z", high), said(b, "z", "z", high)),
				fact.Order(said("z", a, "z", high), said("z", b, "z", high)),
				fact.Order(said("z", "z", a, high), said("z", "z", b, high)),
				fact.Order(said("z", "z", "z", num(1), text(a)), said("z", "z", "z", num(1), text(b))),
			} {
				if got != want {
					t.Errorf("%q, %q: %d", a, b, got)
				}
			}
			if want == 0 {
				continue
			}
			turned := [2]string{"a", "b"}
			if want < 0 {
				turned = [2]string{"b", "a"}
				low, high = high, low
			}
			for _, got := range []int{
				fact.Order(said(a, turned[0], turned[0], low), said(b, turned[1], turned[1], high)),
				fact.Order(said("z", a, turned[0], low), said("z", b, turned[1], high)),
				fact.Order(said("z", "z", a, low), said("z", "z", b, high)),
			} {
				if got != want {
					t.Errorf("%q, %q, turned behind it: %d", a, b, got)
				}
			}
		}
	}
}

func TestOrderArgs(t *testing.T) { // P4.2
	for i, a := range lists() {
		for j, b := range lists() {
			if o := fact.Order(said("a", "b", "p", a...), said("a", "b", "p", b...)); o != sign(i-j) {
				t.Errorf("%+v, %+v: %d", a, b, o)
			}
		}
	}
	for i, a := range consts() {
		for j, b := range consts() {
			if o := fact.Order(said("a", "b", "p", num(1), a, num(2)), said("a", "b", "p", num(1), b, num(1))); i != j && o != sign(i-j) {
				t.Errorf("%+v, %+v: %d", a, b, o)
			}
		}
	}
	none, empty := api.Fact{At: "a", Pred: "p"}, api.Fact{At: "a", Pred: "p", Args: []api.Const{}}
	if fact.Order(none, empty) != 0 || fact.Order(empty, none) != 0 {
		t.Error("nil and empty Args differ")
	}
}

func TestOneOrder(t *testing.T) { // P4.4: of any three
	l := few()
	l = append(l, api.Fact{}, api.Fact{Args: []api.Const{}}, said("a", "a", "p", num(1)), said("a", "a", "p", num(1)))
	for _, c := range consts() {
		l = append(l, said("a", "a", "p", c))
	}
	for _, a := range l {
		for _, b := range l {
			o := fact.Order(a, b)
			if o < -1 || o > 1 || o != -fact.Order(b, a) || (o == 0) != alike(a, b) {
				t.Fatalf("%+v, %+v: %d", a, b, o)
			}
			if o > 0 {
				continue
			}
			for _, c := range l {
				if fact.Order(b, c) <= 0 && fact.Order(a, c) > 0 {
					t.Fatalf("a circle: %+v, %+v, %+v", a, b, c)
				}
			}
		}
	}
}

func TestOneOrderOfConstants(t *testing.T) { // P4.4
	l := consts()
	for _, a := range l {
		for _, b := range l {
			o := fact.Compare(a, b)
			if o != -fact.Compare(b, a) || (o == 0) != (a == b) {
				t.Fatalf("%+v, %+v: %d", a, b, o)
			}
			for _, c := range l {
				if o <= 0 && fact.Compare(b, c) <= 0 && fact.Compare(a, c) > 0 {
					t.Fatalf("a circle: %+v, %+v, %+v", a, b, c)
				}
			}
		}
	}
}

// shuffled is l in another order, by a seed.
func shuffled(l []api.Fact, seed uint64) []api.Fact {
	s := slices.Clone(l)
	for i := len(s) - 1; i > 0; i-- {
		seed = seed*6364136223846793005 + 1442695040888963407
		j := int(seed>>33) % (i + 1)
		s[i], s[j] = s[j], s[i]
	}
	return s
}

func TestSorted(t *testing.T) { // P4.3
	p := func(n int) api.Fact { return fact.Own("a", "p", num(n)) }
	if got := fact.Sorted(p(2), p(1), p(2)); !sameList(got, []api.Fact{p(1), p(2)}) {
		t.Errorf("p(2), p(1), p(2): %+v", got)
	}
	if got := fact.Sorted(); len(got) != 0 {
		t.Errorf("nothing: %+v", got)
	}
	if got := fact.Sorted([]api.Fact{}...); len(got) != 0 {
		t.Errorf("an empty list: %+v", got)
	}
	if got := fact.Sorted(slices.Repeat([]api.Fact{p(7)}, 100)...); !sameList(got, []api.Fact{p(7)}) {
		t.Errorf("p(7) many times: %+v", got)
	}
	if got := fact.Sorted(api.Fact{Args: []api.Const{}}, api.Fact{}); !sameList(got, []api.Fact{{}}) {
		t.Errorf("the zero fact twice: %+v", got)
	}
	l := facts()
	turned := slices.Clone(l)
	slices.Reverse(turned)
	for _, in := range [][]api.Fact{l, turned, shuffled(l, 1), shuffled(slices.Concat(l, turned, l), 2)} {
		if got := fact.Sorted(in...); !sameList(got, l) {
			t.Error("not sorted, of", len(in), "there are", len(got))
		}
	}
}

func TestSortedPermutations(t *testing.T) { // P4.3: four facts, one of them twice, in each order
	l := []api.Fact{said("a", "a", "p"), said("a", "a", "p", num(1)), said("a", "b", "o"), said("a", "b", "o"), said("b", "a", "a")}
	want := []api.Fact{l[0], l[1], l[2], l[4]}
	var each func(done, rest []api.Fact)
	each = func(done, rest []api.Fact) {
		if len(rest) == 0 {
			if got := fact.Sorted(done...); !sameList(got, want) {
				t.Errorf("%+v: %+v", done, got)
			}
		}
		for i := range rest {
			each(append(slices.Clone(done), rest[i]), slices.Delete(slices.Clone(rest), i, i+1))
		}
	}
	each(nil, l)
}

// picks are lists of some facts, each once or twice, of all sizes up to that of a pool.
func picks() [][]api.Fact {
	pool := []api.Fact{
		{}, said("a", "a", "p"), said("a", "a", "p", num(1)), said("a", "a", "p", text("1")), said("a", "b", "p", num(1)), said("b", "a", "p", num(1)),
	}
	var l [][]api.Fact
	for bits := range 1 << len(pool) {
		var some []api.Fact
		for i, f := range pool {
			if bits>>i&1 == 1 {
				some = append(some, f)
			}
			if bits>>i&1 == 1 && (bits+i)%3 == 0 {
				some = append(some, f)
			}
		}
		l = append(l, shuffled(some, uint64(bits)))
	}
	return append(l, []api.Fact{})
}

func TestHas(t *testing.T) { // P4.3
	for _, l := range picks() {
		for _, f := range append(few(), said("a", "a", "p", num(1), num(1)), said("a", "a", "p", num(2)), said("a", "a", "q", num(1)), said("b", "a", "p", num(1)), said("a", "a", "p", text("1"))) {
			if got := fact.Has(l, f); got != wantHas(l, f) {
				t.Errorf("%+v, %+v: %v", l, f, got)
			}
		}
	}
	l := facts()
	for i, f := range l {
		if !fact.Has(l, f) || fact.Has(slices.Delete(slices.Clone(l), i, i+1), f) {
			t.Errorf("%d: %+v", i, f)
		}
	}
	if fact.Has(nil, api.Fact{}) || fact.Has([]api.Fact{}, api.Fact{}) {
		t.Error("nothing has something")
	}
	if !fact.Has([]api.Fact{{At: "a"}}, api.Fact{At: "a", Args: []api.Const{}}) {
		t.Error("empty Args are not nil ones")
	}
}

func TestMinusAndSame(t *testing.T) { // P4.3
	for _, a := range picks() {
		for _, b := range picks() {
			if got := fact.Minus(a, b); !sameList(got, wantMinus(a, b)) {
				t.Fatalf("Minus %+v, %+v: %+v", a, b, got)
			}
			if got := fact.Same(a, b); got != wantSame(a, b) {
				t.Fatalf("Same %+v, %+v: %v", a, b, got)
			}
		}
	}
}

func TestMinusOfMany(t *testing.T) { // P4.3
	l := facts()
	var even, odd []api.Fact
	for i, f := range l {
		if i%2 == 0 {
			even = append(even, f)
		} else {
			odd = append(odd, f)
		}
	}
	if got := fact.Minus(shuffled(slices.Concat(l, l), 3), shuffled(slices.Concat(even, even), 4)); !sameList(got, odd) {
		t.Error("all but the even ones:", len(got))
	}
	if got := fact.Minus(shuffled(odd, 5), shuffled(even, 6)); !sameList(got, odd) {
		t.Error("odd ones but the even ones:", len(got))
	}
	if got := fact.Minus(shuffled(odd, 7), l); len(got) != 0 {
		t.Error("odd ones but all:", len(got))
	}
}

func TestSameOfMany(t *testing.T) { // P4.3
	l := facts()
	if !fact.Same(l, shuffled(slices.Concat(l, l), 8)) || !fact.Same(nil, []api.Fact{}) {
		t.Error("the same set")
	}
	if fact.Same(l, l[1:]) || fact.Same(l[:len(l)-1], l) || fact.Same(nil, l[:1]) || fact.Same(l[:1], l[1:2]) {
		t.Error("not the same set")
	}
	if !fact.Same([]api.Fact{{At: "a"}}, []api.Fact{{At: "a", Args: []api.Const{}}}) {
		t.Error("empty Args are not nil ones")
	}
}

func TestMinusAndCommon(t *testing.T) { // P4.4: what is in a alone and what is in both make Sorted of a
	for _, a := range picks() {
		for _, b := range picks() {
			alone := fact.Minus(a, b)
			both := fact.Minus(a, alone)
			for _, f := range both {
				if !wantHas(a, f) || !wantHas(b, f) || wantHas(alone, f) {
					t.Fatalf("%+v, %+v: %+v is in both", a, b, f)
				}
			}
			if !sameList(fact.Sorted(append(alone, both...)...), fact.Sorted(a...)) || len(alone)+len(both) != len(fact.Sorted(a...)) {
				t.Fatalf("%+v, %+v: alone %+v, both %+v", a, b, alone, both)
			}
		}
	}
}

func TestOwn(t *testing.T) { // P4.3
	if f := fact.Own("a", "p", num(1)); !alike(f, said("a", "a", "p", num(1))) {
		t.Errorf("a, p, 1: %+v", f)
	}
	if f := fact.Own("a", "p"); !alike(f, said("a", "a", "p")) {
		t.Errorf("a, p: %+v", f)
	}
	if f := fact.Own("", "", api.Const{}, api.Const{N: 1, S: "a"}); !alike(f, said("", "", "", api.Const{}, api.Const{N: 1, S: "a"})) {
		t.Errorf("what may not be: %+v", f)
	}
	args := slices.Repeat([]api.Const{text("a"), num(2)}, api.MaxWide)
	if f := fact.Own("who", "pred", args...); !alike(f, said("who", "who", "pred", args...)) {
		t.Errorf("many: %+v", f)
	}
}

// room is a list of facts with spare room behind it and behind their Args, and the whole of that memory, which still tells all of it.
func room() (front, whole []api.Fact) {
	for _, f := range []api.Fact{
		said("b", "a", "p", num(2), num(1)), said("a", "a", "p", num(1)), said("b", "a", "p", num(2), num(1)), said("a", "a", "o", text("x")), said("a", "a", "p"),
	} {
		f.Args = append(slices.Clone(f.Args), num(77), text("spare"))
		whole = append(whole, f)
	}
	for i := range whole {
		whole[i].Args = whole[i].Args[:len(whole[i].Args)-2]
	}
	n := len(whole)
	whole = append(whole, said("spare", "spare", "spare", num(3)), said("spare", "spare", "spare"))
	return whole[:n], whole
}

// deep is all of a memory as values, the spare room of its Args too.
func deep(l []api.Fact) []api.Fact {
	var d []api.Fact
	for _, f := range l {
		f.Args = slices.Clone(f.Args[:cap(f.Args)])
		d = append(d, f)
	}
	return d
}

func TestNotChanged(t *testing.T) { // R3: what is handed in
	a, wholeA := room()
	b, wholeB := room()
	before, beforeB := deep(wholeA), deep(wholeB)
	b = b[1:4]
	fact.Sorted(a...)
	fact.Has(a, b[0])
	fact.Minus(a, b)
	fact.Minus(b, a)
	fact.Same(a, b)
	fact.Order(a[0], b[1])
	fact.Check(a[0])
	fact.Own("a", "p", a[0].Args...)
	if !reflect.DeepEqual(deep(wholeA), before) || !reflect.DeepEqual(deep(wholeB), beforeB) {
		t.Errorf("changed: %+v, %+v", wholeA, wholeB)
	}
}

// scribble writes over all of an answer, its spare room too.
func scribble(l []api.Fact) {
	l = l[:cap(l)]
	for i := range l {
		args := l[i].Args[:cap(l[i].Args)]
		for j := range args {
			args[j] = text("over")
		}
		l[i] = said("over", "over", "over")
	}
}

func TestNewMemory(t *testing.T) { // R3: what is answered
	a, whole := room()
	before := deep(whole)
	for _, answer := range [][]api.Fact{
		fact.Sorted(a...), fact.Minus(a, nil), fact.Minus(a, a[:1]), fact.Minus(nil, a), {fact.Own("a", "p", a[0].Args...)}, fact.Sorted(a[1]), fact.Sorted(a[:0]...),
	} {
		scribble(answer)
		if !reflect.DeepEqual(deep(whole), before) {
			t.Fatalf("what was answered shares memory: %+v", whole)
		}
	}
}

func TestApart(t *testing.T) { // R3: no two lists of one answer, and no two answers, share memory
	shared := []api.Const{num(1), num(2), num(3)}
	l := []api.Fact{said("a", "a", "p", shared...), said("b", "a", "p", shared...), said("c", "a", "p", shared[:2]...)}
	for _, call := range []func() []api.Fact{
		func() []api.Fact { return fact.Sorted(l...) },
		func() []api.Fact { return fact.Minus(l, nil) },
		func() []api.Fact {
			return []api.Fact{fact.Own("a", "p", shared...), fact.Own("b", "p", shared...)}
		},
	} {
		got, again := call(), call()
		want := deep(again)
		scribble(got[:1:1])
		if !sameList(got[1:], want[1:]) || !sameList(again, want) {
			t.Errorf("shared: %+v, %+v", got, again)
		}
	}
}

func FuzzSets(f *testing.F) { // P4.3, P4.4: held against the plain definitions
	f.Add([]byte("abcabcd"), []byte("bd"))
	f.Add([]byte{}, []byte{0, 255, 128})
	f.Fuzz(func(t *testing.T, x, y []byte) {
		a, b := made(x), made(y)
		if got := fact.Sorted(a...); !sameList(got, wantSorted(a)) {
			t.Errorf("Sorted %+v: %+v", a, got)
		}
		if got := fact.Minus(a, b); !sameList(got, wantMinus(a, b)) {
			t.Errorf("Minus %+v, %+v: %+v", a, b, got)
		}
		if got := fact.Same(a, b); got != wantSame(a, b) {
			t.Errorf("Same %+v, %+v: %v", a, b, got)
		}
		for _, g := range b {
			if got := fact.Has(a, g); got != wantHas(a, g) {
				t.Errorf("Has %+v, %+v: %v", a, g, got)
			}
		}
	})
}

// made is a fact for each of some bytes, at most a hundred; of like bytes the same.
func made(bytes []byte) []api.Fact {
	var l []api.Fact
	for _, b := range bytes[:min(len(bytes), 100)] {
		names := []string{"", "a", "ab", "b"}
		args := []api.Const{num(int(b>>4) - 8), {Num: b&16 != 0, S: names[b>>6]}, text("a")}
		l = append(l, said(names[b&3], names[b>>2&3], "p", args[:int(b>>4)%4]...))
	}
	return l
}
