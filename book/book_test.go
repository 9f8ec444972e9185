package book_test

import (
	"math"
	"math/rand"
	"slices"
	"strings"
	"testing"

	"avowal/api"
	"avowal/book"
	"avowal/fact"
)

func TestExample(t *testing.T) { // the chapter's
	b := made(t, derivs("0 a p < a q | 0 a q < a p")...)
	if got := b.Founded(); len(got) != 0 {
		t.Error(got)
	}
	if got := b.Founded(one("a q")); !sameFacts(got, facts("a p; a q")) {
		t.Error(got)
	}
}

func TestAddAndDrop(t *testing.T) { // P16.1: of what is there and of what is not; Len behind each
	d, o := deriv("0 a p < a q; a r"), deriv("1 a p < a q; a r")
	b := made(t)
	for i, step := range []struct {
		does func(api.Deriv) bool
		d    api.Deriv
		want bool
		len  int
	}{
		{b.Drop, d, false, 0},
		{b.Add, d, true, 1},
		{b.Add, d, false, 1},
		{b.Drop, o, false, 1},
		{b.Add, o, true, 2},
		{b.Add, d, false, 2},
		{b.Drop, d, true, 1},
		{b.Drop, d, false, 1},
		{b.Add, o, false, 1},
		{b.Add, d, true, 2},
		{b.Drop, o, true, 1},
		{b.Drop, d, true, 0},
		{b.Drop, d, false, 0},
		{b.Drop, o, false, 0},
		{b.Add, d, true, 1},
	} {
		if got := step.does(step.d); got != step.want || b.Len() != step.len {
			t.Errorf("step %d: %t, and there are %d", i, got, b.Len())
		}
	}
	hold(t, b, &want{[]api.Deriv{d}}, []api.Deriv{d, o}, facts("a q; a r"), facts("a q"))
}

// alike are derivations in order, each of which differs from another one in one thing alone.
func alike() []api.Deriv {
	l := derivs(`0 a p < | 0 a p < a p | 0 a p < a q; a q; a q | 0 a p < a q; a r | 0 a p < a q; a r; a r | 0 a p < a q; a r 1 | 0 a p < a q; a r 1; a q | 0 a p < a q; a r 2
		| 0 a p < a q; a r x | 0 a p < a q; a s | 0 a p < a q; a.b r | 0 a p < a q 1; a r | 0 a p < a r | 0 a p < a r; a q | 0 a p < b q; a r
		| 0 a p 1 < | 0 a p 1 < a q; a r | 0 a p 1 1 < a q; a r | 0 a p 2 < a q; a r | 0 a p x < a q; a r | 0 a q < a q; a r | 0 a.b p < a q; a r | 0 b.a p < a q; a r | 0 b p < a q; a r
		| 1 a p < | 1 a p < a q; a r | 2 a a < a q; a r`)
	for _, rule := range []int{-1, math.MinInt} { // ahead of all others, and far from what is above 0
		d := deriv("0 c z < a q; a r")
		d.Rule = rule
		l = slices.Insert(l, 0, d)
	}
	last := deriv("0 a a < a q; a r")
	last.Rule = math.MaxInt
	return append(l, last)
}

func TestDiffer(t *testing.T) { // P16.1: two are the same if neither is below the other one, else each is there for itself
	l := alike()
	die := rand.New(rand.NewSource(1))
	for range 20 {
		b, w := made(t), &want{}
		for n, i := range die.Perm(len(l)) {
			if b.Drop(l[i]) || !b.Add(l[i]) || b.Add(deep(l[i])) || b.Len() != n+1 {
				t.Fatalf("%+v: %d", l[i], b.Len())
			}
			w.add(l[i])
		}
		hold(t, b, w, l)
		for _, i := range die.Perm(len(l)) {
			if !b.Drop(deep(l[i])) || b.Drop(l[i]) || !w.drop(l[i]) {
				t.Fatalf("%+v", l[i])
			}
			hold(t, b, w, l)
		}
	}
}

func TestInOrder(t *testing.T) { // P16.1, P16.2: by Rule, then Head, then Body, each ahead of all behind it, whatever order they were added in
	l := alike()
	for i := 1; i < len(l); i++ {
		if compare(l[i-1], l[i]) >= 0 {
			t.Fatalf("%+v stands ahead of %+v", l[i-1], l[i])
		}
	}
	using := slices.DeleteFunc(slices.Clone(l), func(d api.Deriv) bool { return !hasFact(d.Body, one("a q")) })
	heading := slices.DeleteFunc(slices.Clone(l), func(d api.Deriv) bool { return !sameFact(d.Head, one("a p")) })
	die := rand.New(rand.NewSource(2))
	for range 100 {
		b := made(t)
		for _, i := range die.Perm(len(l)) {
			b.Add(l[i])
		}
		if got := b.Uses(one("a q")); !sameDerivs(got, using) {
			t.Fatal(got)
		}
		if got := b.Of(one("a p")); !sameDerivs(got, heading) {
			t.Fatal(got)
		}
	}
}

func TestOfAndUses(t *testing.T) { // P16.2: in order, each once; of a fact that is no head, and of one that no Body has
	b := made(t, derivs("1 a p < a q; a q; a q | 0 a p < a r; a q | 0 a p < | 0 a r < a p; a p | 2 b s < a q | 0 a t < a t; a t")...)
	for _, x := range []struct{ f, of, uses string }{
		{"a p", "0 a p < | 0 a p < a r; a q | 1 a p < a q; a q; a q", "0 a r < a p; a p"},
		{"a q", "", "0 a p < a r; a q | 1 a p < a q; a q; a q | 2 b s < a q"},
		{"a r", "0 a r < a p; a p", "0 a p < a r; a q"},
		{"a t", "0 a t < a t; a t", "0 a t < a t; a t"},
		{"b s", "2 b s < a q", ""},
		{"a s", "", ""},
		{"a.b p", "", ""},
		{"b.a p", "", ""},
		{"b q", "", ""},
		{"a p 1", "", ""},
		{"a q 1", "", ""},
		{"a a", "", ""},
		{"z z", "", ""},
	} {
		if got := b.Of(one(x.f)); !sameDerivs(got, derivs(x.of)) {
			t.Errorf("Of %s: %+v", x.f, got)
		}
		if got := b.Uses(one(x.f)); !sameDerivs(got, derivs(x.uses)) {
			t.Errorf("Uses of %s: %+v", x.f, got)
		}
	}
	for _, f := range odd() {
		if len(b.Of(f)) != 0 || len(b.Uses(f)) != 0 {
			t.Errorf("something of %+v", f)
		}
	}
}

func TestTwiceInABody(t *testing.T) { // P16.2: also such a derivation is among Uses once, and goes whole
	d, o := deriv("0 a p < a q; a r; a q"), deriv("0 a p < a q; a r")
	b := made(t, d, o)
	if got := b.Uses(one("a q")); !sameDerivs(got, []api.Deriv{o, d}) {
		t.Error(got)
	}
	if !b.Drop(d) || !sameDerivs(b.Uses(one("a q")), []api.Deriv{o}) || !sameDerivs(b.Uses(one("a r")), []api.Deriv{o}) {
		t.Error(b.Uses(one("a q")), b.Uses(one("a r")))
	}
	if got := b.Founded(facts("a q; a r")...); !sameFacts(got, facts("a p; a q; a r")) {
		t.Error(got)
	}
}

func TestHeads(t *testing.T) { // P16.2: Sorted, each once, as long as there is a derivation of it
	b := made(t, derivs("0 b p < | 2 a p 2 < | 1 a p x < a q | 0 a.b p < | 5 a p 1 < a q | 0 a p 2 < a r | 0 a p 2 < a s")...)
	for _, x := range []struct{ drop, want string }{
		{"9 z z <", "a p 1; a p 2; a p x; a.b p; b p"},
		{"0 a p 2 < a r", "a p 1; a p 2; a p x; a.b p; b p"},
		{"2 a p 2 <", "a p 1; a p 2; a p x; a.b p; b p"},
		{"0 a p 2 < a s", "a p 1; a p x; a.b p; b p"},
		{"0 b p <", "a p 1; a p x; a.b p"},
		{"5 a p 1 < a q", "a p x; a.b p"},
		{"0 a.b p <", "a p x"},
		{"1 a p x < a q", ""},
	} {
		b.Drop(deriv(x.drop))
		if got := b.Heads(); !sameFacts(got, facts(x.want)) {
			t.Errorf("behind %s: %+v", x.drop, got)
		}
	}
}

func TestOdd(t *testing.T) { // P16.1: a derivation is taken as it is given
	var l []api.Deriv
	for i, f := range append(odd(), one("a p")) {
		l = append(l, api.Deriv{Head: f}, api.Deriv{Rule: math.MinInt + i, Head: f, Body: []api.Fact{f}}, api.Deriv{Rule: math.MaxInt - i, Head: one("a p"), Body: []api.Fact{one("a q"), f}})
	}
	b, w := made(t), &want{}
	for _, d := range l {
		if !b.Add(d) || b.Add(d) || !w.add(d) {
			t.Errorf("%+v", d)
		}
	}
	hold(t, b, w, l, odd(), facts("a q"), append(odd(), one("a q")))
	for _, d := range l {
		if !b.Drop(d) || b.Drop(d) {
			t.Errorf("%+v", d)
		}
	}
	hold(t, b, &want{}, l, odd())
}

func TestClone(t *testing.T) { // P16.1: with the same derivations, each going its own way
	l := derivs("0 a p < a q | 1 a p < a q | 0 a r < a p")
	x := made(t, l...)
	y := x.Clone()
	z := y.Clone()
	if x == y || y == z || !x.Drop(l[0]) || !y.Add(deriv("0 a s < a q")) || !z.Add(deriv("0 a t < a q")) || !y.Drop(l[2]) || !z.Add(deriv("0 a s < a q")) {
		t.Fatal("no clones")
	}
	if !x.Add(deriv("0 a u < a q")) || x.Drop(deriv("0 a s < a q")) || y.Drop(deriv("0 a t < a q")) {
		t.Fatal("no clones")
	}
	for _, one := range []struct {
		got  *book.Book
		want string
	}{
		{x, "1 a p < a q | 0 a r < a p | 0 a u < a q"},
		{y, "0 a p < a q | 1 a p < a q | 0 a s < a q"},
		{z, "0 a p < a q | 1 a p < a q | 0 a r < a p | 0 a s < a q | 0 a t < a q"},
		{z.Clone(), "0 a p < a q | 1 a p < a q | 0 a r < a p | 0 a s < a q | 0 a t < a q"},
	} {
		hold(t, one.got, &want{derivs(one.want)}, derivs("0 a p < a q; a r; a s; a t; a u"), facts("a q"))
	}
	if e := made(t).Clone(); e == nil || e.Len() != 0 || !e.Add(l[0]) || e.Len() != 1 {
		t.Error("the clone of one without derivations")
	}
}

func TestFounded(t *testing.T) { // P16.2: what is there of a base, and how it goes on
	for _, x := range []struct{ book, base, want string }{
		{"", "", ""},
		{"", "a q 2; a q 1; a q 2; b q; a.b q; a q", "a q; a q 1; a q 2; a.b q; b q"},
		{"0 a p < a q", "", ""},
		{"0 a p < a q", "a q", "a p; a q"},
		{"0 a p < a q", "a q; a p; a q", "a p; a q"},
		{"0 a p < a q", "a p", "a p"},
		{"0 a p < a q", "a r", "a r"},
		{"0 a p < a q", "b q; a.b q; a q 1; a Q", "a Q; a q 1; a.b q; b q"},
		{"0 a p <", "", "a p"},
		{"0 a p < | 0 a q < a p | 0 a r < a q; a p", "", "a p; a q; a r"},
		{"7 a p < | -7 b q < a p | 0 b r < b q; a s", "", "a p; b q"},
		{"0 a p < a q; a r; a s", "a q; a r", "a q; a r"},
		{"0 a p < a q; a r; a s", "a q; a s", "a q; a s"},
		{"0 a p < a q; a r; a s", "a r; a s", "a r; a s"},
		{"0 a p < a q; a r; a s", "a s; a r; a q", "a p; a q; a r; a s"},
		{"0 a p < a q; a q", "a q", "a p; a q"},
		{"0 a p < a q; a r; a q", "a q", "a q"},
		{"0 a p < a q; a r; a q", "a r", "a r"},
		{"0 a p < a q | 1 a p < a r", "a r", "a p; a r"},
		{"0 a p < a q | 0 a p < a r | 0 a s < a p", "a q", "a p; a q; a s"},
		{"0 a p < a q | 0 a q < a r | 0 a r < a s", "a s", "a p; a q; a r; a s"},
		{"0 a p < a q | 0 a q < a r | 0 a r < a s", "a r", "a p; a q; a r"},
		{"0 a s < a r | 0 a r < a q | 0 a q < a p", "a p", "a p; a q; a r; a s"},
		{"0 a p < a p", "", ""},
		{"0 a p < a p", "a p", "a p"},
		{"0 a p < a p; a q | 0 a q < a p", "a q", "a q"},
		{"0 a p < a p; a q | 0 a q < a p", "a p", "a p; a q"},
		{"0 a p < a q | 0 a q < a r | 0 a r < a p", "", ""},
		{"0 a p < a q | 0 a q < a r | 0 a r < a p", "a p", "a p; a q; a r"},
		{"0 a p < a q | 0 a q < a r | 0 a r < a p", "a q", "a p; a q; a r"},
		{"0 a p < a q | 0 a q < a r | 0 a r < a p", "a r", "a p; a q; a r"},
		{"0 a p < a q | 0 a q < a r | 0 a r < a p | 0 a r < a s", "a s", "a p; a q; a r; a s"},
		{"0 a p < a q | 0 a q < a p | 0 a r < a p; a q", "a q", "a p; a q; a r"},
		{"0 a p < a q | 0 a q < a p | 0 b p < a p | 0 a q < b p; b q", "b q", "b q"},
		{"0 a p 1 < a p 2 | 0 a p 2 < a p 1 | 0 a p 3 < a p 2 | 0 a p 1 <", "", "a p 1; a p 2; a p 3"},
	} {
		l, base := derivs(x.book), facts(x.base)
		die := rand.New(rand.NewSource(3))
		for range 6 {
			b := made(t)
			for _, i := range die.Perm(len(l)) {
				b.Add(l[i])
			}
			if got := b.Founded(base...); !sameFacts(got, facts(x.want)) {
				t.Fatalf("%s: Founded of %s: %+v", x.book, x.base, got)
			}
			if b.Len() != len(l) {
				t.Fatal("Founded changed the book")
			}
			die.Shuffle(len(base), func(i, j int) { base[i], base[j] = base[j], base[i] })
		}
	}
}

// numbered is a fact of a number.
func numbered(n int) api.Fact { return fact.Own("a", "p", num(n)) }

func TestChainsAndCircles(t *testing.T) { // P16.2: of any length, in whatever order they were added
	die := rand.New(rand.NewSource(4))
	for _, n := range []int{1, 2, 3, 10, 3000} {
		ups, downs := make([]int, n), make([]int, n)
		for i := range n {
			ups[i], downs[i] = i, n-1-i
		}
		for _, way := range [][]int{ups, downs, die.Perm(n)} {
			chain, circle := made(t), made(t)
			for _, i := range way {
				chain.Add(api.Deriv{Head: numbered(i + 1), Body: []api.Fact{numbered(i)}})
				circle.Add(api.Deriv{Head: numbered((i + 1) % n), Body: []api.Fact{numbered(i)}})
			}
			if len(chain.Founded()) != 0 || len(circle.Founded()) != 0 {
				t.Error(n, "of nothing: something")
			}
			for _, from := range []int{0, n / 2, n} {
				if got := chain.Founded(numbered(from)); len(got) != n+1-from || !sameFact(got[0], numbered(from)) || !sameFact(got[n-from], numbered(n)) {
					t.Error(n, from, len(got))
				}
			}
			for _, from := range []int{0, n / 2, n - 1} {
				if got := circle.Founded(numbered(from)); len(got) != n || !sameFact(got[0], numbered(0)) || !sameFact(got[n-1], numbered(n-1)) {
					t.Error(n, from, len(got))
				}
			}
			if !chain.Drop(api.Deriv{Head: numbered(n/2 + 1), Body: []api.Fact{numbered(n / 2)}}) {
				t.Fatal(n)
			}
			if got := chain.Founded(numbered(0)); len(got) != n/2+1 {
				t.Error(n, len(got))
			}
		}
	}
}

func TestOneIsLacking(t *testing.T) { // P16.2: of a Body of any length, and whichever it is
	die := rand.New(rand.NewSource(8))
	for _, n := range []int{1, 2, 4, 5, 60} {
		d := api.Deriv{Head: one("b q")}
		for _, i := range die.Perm(n) {
			d.Body = append(d.Body, numbered(i))
		}
		b := made(t, d)
		if got := b.Founded(d.Body...); len(got) != n+1 || !hasFact(got, d.Head) {
			t.Error(n, got)
		}
		for i := range n {
			base := slices.Delete(slices.Clone(d.Body), i, i+1)
			if got := b.Founded(base...); !sameFacts(got, fact.Sorted(base...)) {
				t.Error(n, i, got)
			}
		}
	}
}

func TestOneByOne(t *testing.T) { // P16.2: again and again: what a Body lacks comes one after the other, the first one first or last
	var l []api.Deriv
	n := 200
	for i := range n {
		l = append(l, api.Deriv{Head: numbered(i + 1), Body: []api.Fact{numbered(i)}})
	}
	whole, back := api.Deriv{Head: one("b all")}, api.Deriv{Head: one("c all"), Body: []api.Fact{one("b all")}}
	for i := range n + 1 {
		whole.Body = append(whole.Body, numbered(i))
		back.Body = append(back.Body, numbered(n-i))
	}
	b := made(t, append(l, whole, back)...)
	if got := b.Founded(numbered(0)); len(got) != n+3 || !hasFact(got, whole.Head) || !hasFact(got, back.Head) {
		t.Error(len(got))
	}
	if got := b.Founded(numbered(1)); len(got) != n {
		t.Error(len(got))
	}
}

// follows tells what of P16.3 does not hold of a book, all of whose derivations are among some, and of what is founded from a base.
func follows(b *book.Book, l []api.Deriv, base []api.Fact) string {
	founded := b.Founded(base...)
	lacks := func(f api.Fact) bool { return !hasFact(founded, f) }
	for _, d := range l {
		of := hasDeriv(b.Of(d.Head), d)
		if slices.ContainsFunc(d.Body, func(f api.Fact) bool { return hasDeriv(b.Uses(f), d) != of }) {
			return "Of and Uses differ"
		}
		if of && lacks(d.Head) && !slices.ContainsFunc(d.Body, lacks) {
			return "a head is not there"
		}
	}
	if slices.ContainsFunc(base, lacks) {
		return "the base is not there"
	}
	for rest := founded; len(rest) > 0; { // one after the other stands on the base, or on what went ahead of it: what is left stands on itself
		stands := func(f api.Fact) bool { return !hasFact(rest, f) && !lacks(f) }
		left := slices.DeleteFunc(slices.Clone(rest), func(f api.Fact) bool {
			return hasFact(base, f) || slices.ContainsFunc(b.Of(f), func(d api.Deriv) bool {
				return !slices.ContainsFunc(d.Body, func(g api.Fact) bool { return !stands(g) })
			})
		})
		if len(left) == len(rest) {
			return "something follows only from itself"
		}
		rest = left
	}
	return ""
}

func TestManyWays(t *testing.T) { // P16.1 to P16.3 by their words: many books and clones, each of which goes its own way
	m := maker{rand.New(rand.NewSource(5))}
	var told [4]int
	for round := range 150 {
		some := few()
		if round%2 == 0 { // few facts: many circles
			some = some[len(some)-5:]
		}
		books, wants := []*book.Book{made(t)}, []*want{{}}
		var universe []api.Deriv
		for range 60 {
			i := m.Intn(len(books))
			b, w := books[i], wants[i]
			d := m.deriv(some)
			if len(universe) > 0 && m.Intn(2) == 0 {
				d = deep(pick(m, universe...))
			}
			universe = append(universe, d)
			does, should, at := b.Add, w.add, 0
			if m.Intn(3) == 0 {
				does, should, at = b.Drop, w.drop, 2
			}
			got, want := does(d), should(d)
			if got != want || b.Len() != len(w.l) {
				t.Fatalf("%+v: %+v: %t, %d", w.l, d, got, b.Len())
			}
			if got {
				at++
			}
			told[at]++
			if m.Intn(12) == 0 && len(books) < 4 {
				books, wants = append(books, b.Clone()), append(wants, w.clone())
			}
		}
		for i, b := range books {
			base := m.among(some)
			hold(t, b, wants[i], universe, base, m.among(some))
			if wrong := follows(b, universe, base); wrong != "" {
				t.Fatalf("%+v, of %+v: %s", wants[i].l, base, wrong)
			}
		}
	}
	for i, n := range told {
		if n < 300 {
			t.Error("only so many:", i, n)
		}
	}
}

func TestOneAnswer(t *testing.T) { // R4: whatever order derivations were added and dropped in, a book tells the same
	m := maker{rand.New(rand.NewSource(6))}
	for range 30 {
		w, gone := &want{}, &want{}
		for range 40 {
			w.add(m.deriv(few()))
		}
		for range 10 {
			if d := m.deriv(few()); !hasDeriv(w.l, d) {
				gone.add(d)
			}
		}
		both := slices.Concat(w.l, gone.l)
		base := m.among(few())
		for range 4 {
			b := made(t)
			for _, i := range m.Perm(len(both)) {
				if !b.Add(both[i]) || m.Intn(4) == 0 && (!b.Drop(both[i]) || !b.Add(both[i])) {
					t.Fatal(both[i])
				}
			}
			for _, i := range m.Perm(len(gone.l)) {
				if !b.Drop(gone.l[i]) {
					t.Fatal(gone.l[i])
				}
			}
			hold(t, b, w, both, base)
		}
	}
}

func TestManyDerivations(t *testing.T) { // P16.1, P16.2: thousands of one head, thousands that use one fact
	const n = 12000
	die := rand.New(rand.NewSource(7))
	d := func(i int) api.Deriv {
		return api.Deriv{Rule: i / 1000, Head: numbered(i % 3), Body: []api.Fact{numbered(1000 + i), one("z all")}}
	}
	b := made(t)
	for _, i := range die.Perm(n) {
		if !b.Add(d(i)) {
			t.Fatal(i)
		}
	}
	var sorted []api.Deriv
	for i := range n {
		sorted = append(sorted, d(i))
	}
	slices.SortFunc(sorted, compare)
	holds := func(b *book.Book, l []api.Deriv) {
		t.Helper()
		if b.Len() != len(l) || !sameDerivs(b.Uses(one("z all")), l) {
			t.Fatal("not all that use it:", b.Len())
		}
		for i := range 3 {
			those := slices.DeleteFunc(slices.Clone(l), func(d api.Deriv) bool { return d.Head.Args[0].N != i })
			if got := b.Of(numbered(i)); !sameDerivs(got, those) {
				t.Fatal("not all of the head:", len(got))
			}
		}
	}
	holds(b, sorted)
	c := b.Clone()
	if got := b.Heads(); !sameFacts(got, []api.Fact{numbered(0), numbered(1), numbered(2)}) {
		t.Error(got)
	}
	if got := b.Founded(one("z all"), numbered(1002)); !sameFacts(got, []api.Fact{numbered(2), numbered(1002), one("z all")}) {
		t.Error(got)
	}
	for left, i := range die.Perm(n) {
		if len(b.Uses(numbered(1000+i))) != 1 || !b.Drop(d(i)) || b.Drop(d(i)) || b.Len() != n-1-left || len(b.Uses(numbered(1000+i))) != 0 {
			t.Fatal(i, b.Len())
		}
		if left%3000 == 1000 {
			holds(b, slices.DeleteFunc(slices.Clone(sorted), func(d api.Deriv) bool { return len(b.Uses(d.Body[0])) == 0 }))
		}
	}
	if len(b.Heads()) != 0 || len(b.Uses(one("z all"))) != 0 || len(b.Founded()) != 0 || !b.Add(d(5)) || b.Len() != 1 {
		t.Error("something is left")
	}
	holds(c, sorted)
}

func TestLongBodies(t *testing.T) { // P16.1, P16.2: bodies of thousands of facts that differ in the last ones alone
	const n, long = 12, 4000
	var l []api.Deriv
	for i := range n {
		d := api.Deriv{Head: one("a q")}
		for j := range long {
			d.Body = append(d.Body, numbered(long-j))
		}
		if i > 0 {
			d.Body = append(d.Body, numbered(i))
		}
		l = append(l, d)
	}
	b := made(t)
	for i := range n {
		if !b.Add(l[n-1-i]) || b.Add(l[n-1-i]) {
			t.Fatal(i)
		}
	}
	if got := b.Of(one("a q")); !sameDerivs(got, l) {
		t.Error(len(got))
	}
	if got := b.Uses(numbered(n)); !sameDerivs(got, l) {
		t.Error(len(got))
	}
	if got := b.Founded(l[0].Body...); len(got) != long+1 {
		t.Error(len(got))
	}
	if got := b.Founded(l[0].Body[1:]...); len(got) != long-1 {
		t.Error(len(got))
	}
	for i := range n - 1 {
		if !b.Drop(l[i]) || b.Len() != n-1-i {
			t.Fatal(i)
		}
	}
	if got := b.Uses(numbered(n)); !sameDerivs(got, l[n-1:]) {
		t.Error(len(got))
	}
}

func TestNoBook(t *testing.T) { // P16.2's end: nil, and what New did not make; no panic, whatever the fields hold
	for _, b := range []*book.Book{nil, {}, new(book.Book)} {
		for _, f := range few() {
			d := api.Deriv{Head: f, Body: []api.Fact{f}}
			if b.Add(d) || b.Add(api.Deriv{Head: f}) || b.Drop(d) || b.Len() != 0 || b.Clone() != nil {
				t.Errorf("%+v", f)
			}
			if b.Of(f) != nil || b.Uses(f) != nil || b.Heads() != nil || b.Founded() != nil || b.Founded(f, f) != nil {
				t.Errorf("something of %+v", f)
			}
		}
		if b.Add(api.Deriv{}) || b.Drop(api.Deriv{}) {
			t.Error("a book")
		}
	}
}

func TestNoPanic(t *testing.T) { // R1, R5: whatever the fields hold
	b, w := made(t), &want{}
	var bases [][]api.Fact
	for _, s := range []string{"", "a", "\x00", "\xff\xfe", strings.Repeat("x", 1<<14)} {
		for _, n := range []int{0, 1, -1, math.MinInt, math.MaxInt} {
			for _, is := range []bool{false, true} {
				c := api.Const{Num: is, N: n, S: s}
				f, g := api.Fact{At: s, By: s, Pred: s}, api.Fact{At: "a", By: s, Pred: "p", Args: slices.Repeat([]api.Const{c}, 100)}
				bases = append(bases, []api.Fact{f, g})
				for _, d := range []api.Deriv{{Rule: n}, {Head: f}, {Rule: n, Head: g, Body: []api.Fact{f, g}}, {Rule: n, Body: slices.Repeat([]api.Fact{g, f}, 20)}} {
					if b.Add(d) != w.add(d) || b.Drop(d) != w.drop(d) || b.Add(d) != w.add(d) {
						t.Fatalf("%+v", d)
					}
				}
			}
		}
	}
	hold(t, b, w, w.l[:10], bases[0], bases[len(bases)-1])
}

// roomy is a list with spare room behind it, in which something stands.
func roomy[T any](spare T, l ...T) []T {
	m := append(slices.Clone(l), spare, spare, spare)
	return m[:len(l)]
}

// spare is what stands in spare room.
func spare() api.Fact { return api.Fact{At: "spare", Args: roomy(text("spare"), num(7))} }

// roomyFact has spare room behind its Args.
func roomyFact(f api.Fact) api.Fact {
	f.Args = roomy(text("spare"), f.Args...)
	return f
}

// roomyFacts have spare room everywhere.
func roomyFacts(l []api.Fact) []api.Fact {
	m := roomy(spare(), l...)
	for i, f := range m {
		m[i] = roomyFact(f)
	}
	return m
}

func roomyDeriv(d api.Deriv) api.Deriv {
	d.Head, d.Body = roomyFact(d.Head), roomyFacts(d.Body)
	return d
}

// spoilFacts overwrites all of a list, with all lists within and all spare room.
func spoilFacts(l []api.Fact) {
	for i, f := range l[:cap(l)] {
		for j := range f.Args[:cap(f.Args)] {
			f.Args[:cap(f.Args)][j] = text("spoilt")
		}
		l[:cap(l)][i] = api.Fact{Pred: "spoilt"}
	}
}

func spoil(d *api.Deriv) {
	spoilFacts([]api.Fact{d.Head})
	spoilFacts(d.Body)
	*d = api.Deriv{}
}

func spoilAll(l []api.Deriv) {
	for i := range l[:cap(l)] {
		spoil(&l[:cap(l)][i])
	}
}

// deepRoom is a list of facts with all that is in its spare room.
func deepRoom(l []api.Fact) []api.Fact {
	m := slices.Clone(l[:cap(l)])
	for i, f := range m {
		m[i].Args = slices.Clone(f.Args[:cap(f.Args)])
	}
	return m
}

func TestHandedInStays(t *testing.T) { // R3: spare room too
	b := made(t)
	for _, x := range derivs("0 a p 2 < a q 1; a r; a q 1 | 1 a p 2 < a q 1 | 0 a r < | 0 a p 2 < a q 1; a r; a q 1") {
		d, base := roomyDeriv(x), roomyFacts(facts("a s 9; a q 1; a b; a q 1"))
		head, body, others := deepRoom([]api.Fact{d.Head}), deepRoom(d.Body), deepRoom(base)
		b.Add(d)
		b.Of(d.Head)
		for _, f := range d.Body {
			b.Uses(f)
		}
		spoilFacts(b.Founded(base...))
		spoilFacts(b.Founded(d.Body...))
		spoilFacts(b.Founded(d.Head))
		spoilAll(b.Of(d.Head))
		b.Clone().Drop(d)
		b.Drop(d)
		b.Drop(d)
		b.Add(d)
		spoilFacts(b.Heads())
		if !sameFacts(deepRoom([]api.Fact{d.Head}), head) || !sameFacts(deepRoom(d.Body), body) || !sameFacts(deepRoom(base), others) {
			t.Errorf("%+v, %+v", d, base)
		}
	}
}

func TestTheCallersOwn(t *testing.T) { // R3: what is handed in and then changes, and what is told and then changes, changes no book, no clone, and nothing else that is told
	l := derivs("0 a p 1 < a q 1; a r 1; a q 1 | 0 a p 1 < a q 1 | 1 a p 1 < a r 1; a q 1 | 0 a p 2 < a p 1; a p 1 | 0 a p 3 <")
	x := made(t)
	for _, d := range deeps(l) {
		d = roomyDeriv(d)
		if !x.Add(d) {
			t.Fatal(d)
		}
		spoil(&d)
	}
	y := x.Clone()
	stays := func(when string) {
		t.Helper()
		t.Log(when)
		for _, b := range []*book.Book{x, y, x.Clone()} {
			hold(t, b, &want{l}, l, facts("a q 1; a r 1"), facts("a p 1"))
		}
	}
	stays("what was added is overwritten")
	for _, b := range []*book.Book{x, y} {
		for _, tell := range []func() []api.Deriv{func() []api.Deriv { return b.Of(one("a p 1")) }, func() []api.Deriv { return b.Uses(one("a q 1")) }} {
			other := tell()
			for i, d := range tell() {
				spoil(&d)
				if !sameDerivs(other, tell()) {
					t.Fatal(i, other)
				}
			}
			apart(t, other)
			for _, d := range tell() {
				_ = append(append(d.Head.Args, num(9)), num(9))
				_ = append(d.Body, one("a more"))
			}
			stays("something stands behind what was told")
			spoilAll(tell())
			stays("what was told is overwritten")
		}
		for _, tell := range []func() []api.Fact{b.Heads, func() []api.Fact { return b.Founded(facts("a q 1; a r 1")...) }} {
			spoilFacts(tell())
			l := tell()
			for i, f := range l {
				spoilFacts([]api.Fact{f})
				if !sameFacts(l[i+1:], tell()[i+1:]) {
					t.Fatal(i, l)
				}
			}
			stays("heads or what is founded are overwritten")
		}
		base := facts("a q 1; a r 1; a q 1")
		got := b.Founded(base...)
		spoilFacts(base)
		if !sameFacts(got, facts("a p 1; a p 2; a p 3; a q 1; a r 1")) {
			t.Error(got)
		}
		stays("the base is overwritten")
	}
}

// apart holds that no two lists of what is told share memory: each is overwritten, and the others stay.
func apart(t *testing.T, l []api.Deriv) {
	t.Helper()
	as := deeps(l)
	for i := range l {
		spoilFacts([]api.Fact{l[i].Head})
		if !sameFacts(l[i].Body, as[i].Body) {
			t.Fatal("the Head and the Body share something")
		}
		for j, f := range l[i].Body {
			for k := range f.Args[:cap(f.Args)] {
				f.Args[:cap(f.Args)][k] = text("spoilt")
			}
			if !sameFacts(l[i].Body[j+1:], as[i].Body[j+1:]) {
				t.Fatal("two facts of a Body share something")
			}
		}
		spoil(&l[i])
		if !sameDerivs(l[i+1:], as[i+1:]) {
			t.Fatal("two derivations share something")
		}
	}
}

func FuzzBook(f *testing.F) {
	for i := range 8 {
		f.Add(int64(i), byte(i), byte(i*20))
	}
	f.Fuzz(func(t *testing.T, seed int64, of, steps byte) {
		m := maker{rand.New(rand.NewSource(seed))}
		some := few()
		some = some[int(of)%len(some):]
		x, w := made(t), &want{}
		y, v := x.Clone(), w.clone()
		var universe []api.Deriv
		for range steps {
			d := m.deriv(some)
			universe = append(universe, d)
			if got, want := x.Add(d), w.add(d); got != want {
				t.Fatalf("%+v: Add(%+v): %t", w.l, d, got)
			}
			if d = pick(m, universe...); m.Intn(2) == 0 {
				if got, want := x.Drop(d), w.drop(d); got != want {
					t.Fatalf("%+v: Drop(%+v): %t", w.l, d, got)
				}
			}
			if m.Intn(8) == 0 {
				x, y, w, v = y, x, v, w
			}
			if m.Intn(16) == 0 {
				y, v = x.Clone(), w.clone()
			}
		}
		base := m.among(some)
		hold(t, x, w, universe, base)
		hold(t, y, v, universe, base)
		if wrong := follows(x, universe, base); wrong != "" {
			t.Fatalf("%+v, of %+v: %s", w.l, base, wrong)
		}
	})
}
