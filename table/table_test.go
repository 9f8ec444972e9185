package table_test

import (
	"iter"
	"math"
	"math/rand"
	"slices"
	"strings"
	"testing"

	"avowal/api"
	"avowal/fact"
	"avowal/table"
)

func TestExample(t *testing.T) { // the chapter's
	x := made(t, 1)
	if e := x.Put(one("a p 1")); e != api.OK {
		t.Error(e)
	}
	if e := x.Put(one("a p 2")); e != api.ErrFull {
		t.Error(e)
	}
	if e := x.Put(one("a p 1")); e != api.ErrTwice {
		t.Error(e)
	}
	if got := slices.Collect(x.All()); !sameFacts(got, facts("a p 1")) || x.Len() != 1 {
		t.Error(got)
	}
}

func TestNew(t *testing.T) { // P15.1: 1 to MaxTable
	for _, limit := range []int{math.MinInt, -api.MaxTable, -1, 0, api.MaxTable + 1, math.MaxInt} {
		if x, e := table.New(limit); x != nil || e != api.ErrArg {
			t.Errorf("New(%d): %v, %d", limit, x, e)
		}
	}
	for _, limit := range []int{1, 2, api.MaxTable - 1, api.MaxTable} {
		x := made(t, limit)
		hold(t, x, &want{limit: limit}, facts("a p; a p 1"), names(), constants())
		for i := range limit {
			if e := x.Put(fact.Own("a", "p", num(i))); e != api.OK {
				t.Fatal(limit, i, e)
			}
		}
		if e := x.Put(fact.Own("a", "p", num(limit))); e != api.ErrFull || x.Len() != limit {
			t.Error(limit, e, x.Len())
		}
	}
}

func TestPutRefuses(t *testing.T) { // P15.1: ErrFact ahead of all else, ErrTwice ahead of ErrFull; nothing has changed then
	m := maker{rand.New(rand.NewSource(1))}
	for _, limit := range []int{2, 3} {
		l := facts("a p 1 a; b p")
		x, w := made(t, limit, l...), &want{limit: limit, l: l}
		for _, f := range l {
			for _, g := range m.odd(f) {
				if e := x.Put(g); e != api.ErrFact {
					t.Errorf("Put(%+v): %d", g, e)
				}
				if x.Has(g) || x.Take(g) != api.ErrNone {
					t.Errorf("%+v is there", g)
				}
			}
			if e := x.Put(f); e != api.ErrTwice {
				t.Errorf("Put(%+v): %d", f, e)
			}
		}
		if e := x.Put(one("a p 2")); limit == 2 && e != api.ErrFull || limit == 3 && e != api.OK || w.put(one("a p 2")) != e {
			t.Error(limit, e)
		}
		hold(t, x, w, append(facts("a p 2; a p 3"), l...), names(), constants())
	}
}

func TestWidest(t *testing.T) { // P15.1: the longest texts and the most arguments that may be, and the least
	wide := slices.Repeat([]api.Const{text(longest())}, api.MaxWide)
	for _, f := range []api.Fact{said(longest(), longest(), longest(), wide...), said("a", "b", "c"), said("\x00", "\xff", " ", num(math.MinInt), num(math.MaxInt))} {
		x := made(t, 1, f)
		if got := slices.Collect(x.All()); !sameFacts(got, []api.Fact{f}) || !x.Has(f) || x.Take(f) != api.OK {
			t.Errorf("%+v: %+v", f, got)
		}
	}
}

func TestTake(t *testing.T) { // P15.1: of what is there, and what is not; Has and Len behind each
	l := facts("a p; a p 1; a p 1 1; a p x; a.b p 1; b p 1; a q 1")
	x, w := made(t, 20, l...), &want{limit: 20, l: deep(l)}
	universe := append(facts("a p 2; a q; b.a p 1"), l...)
	for _, f := range facts("a p 2; a p 1; a p 1; b.a p 1; a p; a q 1; a p x; a.b p 1; a p 1 1; b p 1; b p 1; a p") {
		if got, want := x.Take(f), w.take(f); got != want {
			t.Errorf("Take(%+v): %d, want %d", f, got, want)
		}
		hold(t, x, w, universe, names(), constants())
	}
	if x.Len() != 0 {
		t.Error(x.Len())
	}
	for range 3 { // what was taken finds room again
		for _, f := range l {
			if x.Put(f) != api.OK || x.Len() != 1 || x.Take(f) != api.OK || x.Len() != 0 {
				t.Errorf("%+v: %d", f, x.Len())
			}
		}
	}
}

func TestFullAgain(t *testing.T) { // P15.1: what is taken makes room
	x := made(t, 2, facts("a p 1; a p 2")...)
	if x.Put(one("a p 3")) != api.ErrFull || x.Take(one("a p 3")) != api.ErrNone || x.Put(one("a p 3")) != api.ErrFull {
		t.Error("it was full")
	}
	if x.Take(one("a p 1")) != api.OK || x.Put(one("a p 3")) != api.OK || x.Put(one("a p 1")) != api.ErrFull || x.Len() != 2 {
		t.Error("there was room for one")
	}
	if got := slices.Collect(x.All()); !sameFacts(got, facts("a p 2; a p 3")) {
		t.Error(got)
	}
}

func TestClone(t *testing.T) { // P15.1: with the same facts and the same limit, each going its own way
	x := made(t, 3, facts("a p 2; a p 1")...)
	y := x.Clone()
	z := y.Clone()
	if y == x || x.Put(one("a p 0")) != api.OK || y.Take(one("a p 1")) != api.OK || z.Put(one("a p 7")) != api.OK || z.Put(one("a p 8")) != api.ErrFull {
		t.Error("no clones")
	}
	for i, one := range []struct {
		got  *table.Table
		want string
	}{{x, "a p 0; a p 1; a p 2"}, {y, "a p 2"}, {z, "a p 1; a p 2; a p 7"}, {z.Clone(), "a p 1; a p 2; a p 7"}} {
		if got := slices.Collect(one.got.All()); !sameFacts(got, facts(one.want)) || one.got.Len() != len(got) {
			t.Error(i, got)
		}
	}
	if z.Clone().Put(one("a p 8")) != api.ErrFull || y.Put(one("a p 8")) != api.OK || y.Put(one("a p 9")) != api.OK || y.Put(one("a p 1")) != api.ErrFull {
		t.Error("the limit of a clone is another one")
	}
	if e := made(t, 1).Clone(); e == nil || e.Len() != 0 || e.Put(one("a p 1")) != api.OK || e.Put(one("a p 2")) != api.ErrFull {
		t.Error("the clone of one without facts")
	}
}

func TestAllInOrder(t *testing.T) { // P15.2: by fact.Order, each field ahead of all behind it, whatever order facts were put in
	l := facts("a p; a p -1; a p 0; a p 0 0; a p 1; a p a; a p b; a q; a.b p; a.b p 1; ab p; b.a p; b p 10; b p 9x")
	for i := 1; i < len(l); i++ {
		if fact.Order(l[i-1], l[i]) >= 0 {
			t.Fatalf("%+v stands ahead of %+v", l[i-1], l[i])
		}
	}
	die := rand.New(rand.NewSource(2))
	for range 200 {
		x := made(t, len(l))
		for _, i := range die.Perm(len(l)) {
			if x.Put(l[i]) != api.OK {
				t.Fatal(l[i])
			}
		}
		if got := slices.Collect(x.All()); !sameFacts(got, l) {
			t.Fatal(got)
		}
	}
}

func TestOf(t *testing.T) { // P15.2: each text empty and not, all three empty
	x := made(t, 20, facts("a p 1; a p 2; a q 1; a.b p 1; b.a p 1; b p 1; b q 1; ab.a p; c p")...)
	for _, one := range []struct{ at, by, pred, want string }{
		{"", "", "", "a p 1; a p 2; a q 1; a.b p 1; ab.a p; b.a p 1; b p 1; b q 1; c p"},
		{"a", "", "", "a p 1; a p 2; a q 1; a.b p 1"},
		{"", "a", "", "a p 1; a p 2; a q 1; ab.a p; b.a p 1"},
		{"", "", "q", "a q 1; b q 1"},
		{"a", "a", "", "a p 1; a p 2; a q 1"},
		{"b", "", "p", "b.a p 1; b p 1"},
		{"", "a", "p", "a p 1; a p 2; ab.a p; b.a p 1"},
		{"a", "b", "p", "a.b p 1"},
		{"c", "c", "p", "c p"},
		{"c", "c", "q", ""},
		{"c", "a", "", ""},
		{"q", "", "", ""},
		{"", "p", "", ""},
		{"", "", "a", ""},
		{"A", "", "", ""},
		{"a ", "", "", ""},
		{"\x00", "", "", ""},
	} {
		if got := slices.Collect(x.Of(one.at, one.by, one.pred)); !sameFacts(got, facts(one.want)) {
			t.Errorf("%+v: %+v", one, got)
		}
	}
}

func TestFind(t *testing.T) { // P15.2: at each place, below 0 and beyond; numbers and texts; fact.Compare: 0
	x := made(t, 20, facts("a p; a p 1; a p 1 1; a p 1 2 1; a p x 1; a p 2 1 1; b p 1; b.a p x; a q 1; a q 1 x")...)
	if x.Put(said("a", "a", "p", text("1"), num(1))) != api.OK {
		t.Fatal("no room")
	}
	texts := []api.Fact{said("a", "a", "p", text("1"), num(1))}
	for _, one := range []struct {
		pred  string
		place int
		c     api.Const
		want  []api.Fact
	}{
		{"p", 0, num(1), facts("a p 1; a p 1 1; a p 1 2 1; b p 1")},
		{"p", 1, num(1), slices.Concat(facts("a p 1 1; a p 2 1 1"), texts, facts("a p x 1"))},
		{"p", 2, num(1), facts("a p 1 2 1; a p 2 1 1")},
		{"p", 3, num(1), nil},
		{"p", -1, num(1), nil},
		{"p", math.MinInt, num(1), nil},
		{"p", math.MaxInt, num(1), nil},
		{"p", api.MaxWide, num(1), nil},
		{"p", 0, text("1"), texts},
		{"p", 0, text("x"), facts("a p x 1; b.a p x")},
		{"q", 0, num(1), facts("a q 1; a q 1 x")},
		{"q", 1, text("x"), facts("a q 1 x")},
		{"q", 1, num(1), nil},
		{"", 0, num(1), nil}, // no predicate is empty, and none stands for any here
		{"r", 0, num(1), nil},
		{"a", 0, num(1), nil},
		{"p", 0, api.Const{Num: true, N: 1, S: "1"}, nil},
		{"p", 0, api.Const{N: 1}, nil},
		{"p", 0, api.Const{N: 1, S: "1"}, nil},
		{"p", 0, api.Const{}, nil},
		{"p", 0, text("X"), nil},
		{"p", 0, num(math.MinInt), nil},
	} {
		if got := slices.Collect(x.Find(one.pred, one.place, one.c)); !sameFacts(got, one.want) {
			t.Errorf("%+v: %+v", one, got)
		}
	}
	wide := api.Fact{At: "a", By: "a", Pred: "wide", Args: slices.Repeat([]api.Const{num(0)}, api.MaxWide)}
	wide.Args[api.MaxWide-1] = text("last")
	y := made(t, 1, wide)
	for place := -2; place < api.MaxWide+2; place++ {
		zeros, lasts := slices.Collect(y.Find("wide", place, num(0))), slices.Collect(y.Find("wide", place, text("last")))
		if (len(zeros) == 1) != (place >= 0 && place < api.MaxWide-1) || (len(lasts) == 1) != (place == api.MaxWide-1) {
			t.Error(place, zeros, lasts)
		}
	}
}

// ranges are all three ways to go through p's facts.
func ranges(x *table.Table) []iter.Seq[api.Fact] {
	return []iter.Seq[api.Fact]{x.All(), x.Of("a", "", "p"), x.Of("", "", ""), x.Find("p", 0, num(1))}
}

func TestLeftAndAgain(t *testing.T) { // P15.2: left anywhere, gone over again, within one another
	l := facts("a p 1; a p 1 1; a p 1 2; a p 1 a")
	x := made(t, 9, l...)
	for i, all := range ranges(x) {
		for most := range len(l) + 2 {
			var got []api.Fact
			for f := range all {
				if len(got) == most {
					break
				}
				got = append(got, f)
			}
			if !sameFacts(got, l[:min(most, len(l))]) {
				t.Error(i, most, got)
			}
		}
		pairs := 0
		for f := range all {
			for g := range all {
				if fact.Order(f, g) <= 0 {
					pairs++
				}
				if sameFact(f, g) {
					break
				}
			}
		}
		if pairs != len(l) || !sameFacts(slices.Collect(all), l) {
			t.Error(i, pairs)
		}
	}
}

func TestWhatThereWas(t *testing.T) { // P15.2: a range tells what was there when it began, not when it was asked for, and not what is there when it goes on
	ahead, late := facts("a p 1; a p 1 3"), facts("a p 1 0; a p 1 3; a p 1 9")
	for i := range ranges(made(t, 1)) {
		x := made(t, 9, ahead...)
		all := ranges(x)[i]
		if x.Take(one("a p 1")) != api.OK || x.Put(one("a p 1 9")) != api.OK || x.Put(one("a p 1 0")) != api.OK {
			t.Fatal("no room")
		}
		var got []api.Fact
		for f := range all {
			if len(got) == 0 { // all goes, and others come
				for g := range x.All() {
					if x.Take(g) != api.OK {
						t.Error(g)
					}
				}
				for _, g := range facts("a p 1 4; a p 1; a p 1 8") {
					if x.Put(g) != api.OK {
						t.Error(g)
					}
				}
			}
			got = append(got, f)
		}
		if !sameFacts(got, late) {
			t.Error(i, got)
		}
		if got := slices.Collect(all); !sameFacts(got, facts("a p 1; a p 1 4; a p 1 8")) {
			t.Error(i, got)
		}
	}
}

func TestTakeAllFromWithin(t *testing.T) { // P15.2: each fact is taken, or put again, as it is told
	l := facts("a p 1; a p 1 1; a p 1 2; a p 1 3; a p 1 4")
	for i := range ranges(made(t, 1)) {
		x := made(t, len(l), l...)
		told := 0
		for f := range ranges(x)[i] {
			told++
			if x.Take(f) != api.OK || x.Has(f) {
				t.Error(i, f)
			}
			f.Args = append(f.Args, text("more"))
			if x.Put(f) != api.OK {
				t.Error(i, f)
			}
		}
		if told != len(l) || x.Len() != len(l) || x.Has(l[0]) {
			t.Error(i, told, x.Len())
		}
	}
}

// begun is a range on its way, what it should tell still, and how to leave it.
type begun struct {
	next  func() (api.Fact, bool)
	leave func()
	want  []api.Fact
}

// goOn asks a range for one more.
func (b *begun) goOn(t *testing.T) {
	t.Helper()
	f, ok := b.next()
	if ok != (len(b.want) > 0) || ok && !sameFact(f, b.want[0]) {
		t.Fatalf("%+v, %t; want %+v", f, ok, b.want)
	}
	if ok {
		b.want = b.want[1:]
	}
}

func TestManyWays(t *testing.T) { // P15.1 to P15.3 by their words: many tables, clones and ranges, each of which goes its own way
	m := maker{rand.New(rand.NewSource(3))}
	errors := map[api.Errno]int{}
	for range 120 {
		limit := 1 + m.Intn(12)
		tables, wants := []*table.Table{made(t, limit)}, []*want{{limit: limit}}
		var open []*begun
		var universe []api.Fact
		for range 60 {
			i := m.Intn(len(tables))
			x, w := tables[i], wants[i]
			f := m.fact()
			if len(universe) > 0 && m.Intn(2) == 0 {
				f = pick(m, universe...)
			}
			universe = append(universe, f)
			switch m.Intn(8) {
			case 0, 1, 2, 3:
				got, want := x.Put(f), w.put(f)
				errors[got]++
				if got != want {
					t.Fatalf("%+v: Put(%+v): %d; want %d", w.l, f, got, want)
				}
			case 4, 5:
				got, want := x.Take(f), w.take(f)
				errors[got]++
				if got != want {
					t.Fatalf("%+v: Take(%+v): %d; want %d", w.l, f, got, want)
				}
			case 6:
				if len(tables) < 5 {
					tables, wants = append(tables, x.Clone()), append(wants, w.clone())
				}
			default:
				a := pick(m, asked(x, w, names(), constants())...)
				next, leave := iter.Pull(a.got)
				b := &begun{next: next, leave: leave, want: a.want}
				b.goOn(t) // by which it has begun
				open = append(open, b)
			}
			for _, b := range open {
				if m.Intn(3) == 0 {
					b.goOn(t)
				}
			}
		}
		for i, x := range tables {
			hold(t, x, wants[i], universe, names(), constants())
		}
		for _, b := range open {
			for m.Intn(4) > 0 && len(b.want) > 0 {
				b.goOn(t)
			}
			b.leave()
		}
	}
	for _, e := range []api.Errno{api.OK, api.ErrFact, api.ErrTwice, api.ErrFull, api.ErrNone} {
		if errors[e] < 50 {
			t.Error("only so many:", e, errors[e])
		}
	}
}

func TestOneOrder(t *testing.T) { // P15.3: whatever order facts were put and taken in, a table tells the same; Of and Find tell just those of All that are so
	m := maker{rand.New(rand.NewSource(4))}
	for range 60 {
		var l, gone []api.Fact
		for range m.Intn(40) {
			if f := m.fact(); fact.Check(f) == api.OK {
				l = append(l, f)
			}
		}
		l = fact.Sorted(l...)
		for range m.Intn(10) {
			if f := m.fact(); fact.Check(f) == api.OK && !fact.Has(l, f) && !fact.Has(gone, f) {
				gone = append(gone, f)
			}
		}
		for range 5 {
			x := made(t, api.MaxTable)
			both := slices.Concat(l, gone)
			for _, i := range m.Perm(len(both)) {
				if x.Put(both[i]) != api.OK {
					t.Fatal(both[i])
				}
				if m.Intn(4) == 0 && (x.Take(both[i]) != api.OK || x.Put(both[i]) != api.OK) {
					t.Fatal(both[i])
				}
			}
			for _, i := range m.Perm(len(gone)) {
				if x.Take(gone[i]) != api.OK {
					t.Fatal(gone[i])
				}
			}
			hold(t, x, &want{limit: api.MaxTable, l: l}, both, names(), constants())
		}
	}
}

func TestGreatTable(t *testing.T) { // P15.1, P15.2: as many facts as there may be
	die := rand.New(rand.NewSource(5))
	x := made(t, api.MaxTable)
	for _, i := range die.Perm(api.MaxTable) {
		if e := x.Put(fact.Own("a", "p", num(i%64), num(i))); e != api.OK {
			t.Fatal(i, e)
		}
	}
	y := x.Clone()
	count := 0
	for f := range x.All() {
		if f.Args[0].N != count/64 || f.Args[1].N != count%64*64+count/64 {
			t.Fatal(count, f)
		}
		count++
		if x.Take(f) != api.OK {
			t.Fatal(f)
		}
	}
	if count != api.MaxTable || x.Len() != 0 || y.Len() != api.MaxTable || y.Put(one("a q")) != api.ErrFull {
		t.Error(count, x.Len(), y.Len())
	}
	for i := range 64 {
		if got := slices.Collect(y.Find("p", 0, num(i))); len(got) != 64 {
			t.Error(i, len(got))
		}
	}
}

func TestNoTable(t *testing.T) { // P15.2's end: nil, and what New did not make; no panic, whatever the fields hold
	for _, x := range []*table.Table{nil, {}, new(table.Table)} {
		for _, s := range []string{"", "a", "\x00", "\xff\xfe", strings.Repeat("x", 1<<14)} {
			for _, n := range []int{0, 1, math.MinInt, math.MaxInt} {
				c := api.Const{Num: n == 1, N: n, S: s}
				f := api.Fact{At: s, By: s, Pred: s, Args: []api.Const{c, num(1)}}
				if x.Put(f) != api.ErrNil || x.Take(f) != api.ErrNil || x.Has(f) || x.Len() != 0 || x.Clone() != nil {
					t.Errorf("%v: %q, %d", x, s, n)
				}
				for range x.All() {
					t.Error("All tells something")
				}
				for range x.Of(s, "", s) {
					t.Error("Of tells something")
				}
				for range x.Find(s, n, c) {
					t.Error("Find tells something")
				}
			}
		}
		if x.Put(one("a p 1")) != api.ErrNil || x.Take(one("a p 1")) != api.ErrNil {
			t.Error("something was put")
		}
	}
}

func TestNoPanic(t *testing.T) { // R1, R5: whatever the fields hold
	l := facts("a p; a p 1; a p x 1")
	x, w := made(t, 5, l...), &want{limit: 5, l: l}
	for _, s := range []string{"", "a", "p", "\x00", "\xff\xfe", strings.Repeat("x", 1<<14)} {
		for _, n := range []int{0, 1, -1, math.MinInt, math.MaxInt} {
			for _, is := range []bool{false, true} {
				c := api.Const{Num: is, N: n, S: s}
				for _, f := range []api.Fact{{At: s}, {At: s, By: s, Pred: s}, {At: "a", By: "a", Pred: "p", Args: []api.Const{c}}, {At: s, By: "a", Pred: "p", Args: slices.Repeat([]api.Const{c}, 100)}} {
					if x.Has(f) != w.has(f) || x.Put(f) != w.put(f) || x.Take(f) != w.take(f) {
						t.Fatalf("%+v", f)
					}
				}
				w.put(l[0])
				x.Put(l[0])
				if got, want := slices.Collect(x.Of(s, "a", s)), w.of(s, "a", s); !sameFacts(got, want) {
					t.Errorf("Of %q: %+v", s, got)
				}
				if got, want := slices.Collect(x.Find(s, n, c)), w.find(s, n, c); !sameFacts(got, want) {
					t.Errorf("Find %q, %d, %+v: %+v", s, n, c, got)
				}
			}
		}
	}
}

// roomy is a list with spare room behind it, in which something stands.
func roomy(l []api.Const) []api.Const {
	m := append(slices.Clone(l), text("spare"), num(7), text("spare"))
	return m[:len(l)]
}

// spoil overwrites all of a list, with its spare room.
func spoil(l []api.Const) {
	for i := range l[:cap(l)] {
		l[:cap(l)][i] = text("spoilt")
	}
}

func TestHandedInStays(t *testing.T) { // R3: spare room too
	x := made(t, 9)
	for _, f := range facts("a p; a p 1; a p 1 x; b p 3; a p 1") {
		f.Args = roomy(f.Args)
		as := slices.Clone(f.Args[:cap(f.Args)])
		x.Put(f)
		x.Has(f)
		for g := range x.Of(f.At, "", f.Pred) {
			spoil(g.Args)
			_ = append(g.Args, num(9))
		}
		x.Clone().Take(f)
		x.Take(f)
		x.Put(f)
		if !slices.Equal(f.Args[:cap(f.Args)], as) {
			t.Errorf("%+v: now %+v", as, f.Args[:cap(f.Args)])
		}
	}
}

func TestTheCallersOwn(t *testing.T) { // R3: what is handed in and then changes, and what is told and then changes, changes no table, no clone, and nothing else that is told
	l := facts("a p 1 1; a p 1 2; a p 1 x; b p 1")
	x := made(t, 9)
	for _, f := range deep(l) {
		f.Args = roomy(f.Args)
		if x.Put(f) != api.OK {
			t.Fatal(f)
		}
		spoil(f.Args)
	}
	y := x.Clone()
	stays := func(when string) {
		t.Helper()
		for _, z := range []*table.Table{x, y, x.Clone()} {
			if got := slices.Collect(z.All()); !sameFacts(got, l) || z.Len() != len(l) {
				t.Fatalf("%s: %+v", when, got)
			}
			for _, f := range l {
				if !z.Has(f) {
					t.Fatalf("%s: no %+v", when, f)
				}
			}
		}
	}
	stays("what was put is overwritten")
	for _, z := range []*table.Table{x, y} {
		for _, all := range []iter.Seq[api.Fact]{z.All(), z.Of("", "", "p"), z.Of("a", "a", ""), z.Find("p", 0, num(1))} {
			other, again := slices.Collect(all), slices.Collect(all)
			for i, f := range slices.Collect(all) {
				spoil(f.Args)
				_ = append(f.Args, num(9))
				if !sameFacts(other, again) || !sameFact(other[i], again[i]) {
					t.Fatalf("%+v, %+v", other, again)
				}
			}
			for f := range all {
				spoil(f.Args)
			}
			for i, f := range other {
				spoil(f.Args)
				if i+1 < len(other) && !sameFacts(other[i+1:], again[i+1:]) {
					t.Fatalf("%+v, %+v", other, again)
				}
			}
			stays("what was told is overwritten")
		}
	}
	for f := range x.All() {
		_ = append(f.Args, num(77))
		spoil(f.Args)
		if x.Take(f) != api.ErrNone {
			t.Fatal(f)
		}
	}
	stays("what is told is overwritten within the range")
}

func FuzzTable(f *testing.F) {
	for i := range 8 {
		f.Add(int64(i), byte(i), byte(i*20))
	}
	f.Fuzz(func(t *testing.T, seed int64, limit, steps byte) {
		m := maker{rand.New(rand.NewSource(seed))}
		x, w := made(t, 1+int(limit)%20), &want{limit: 1 + int(limit)%20}
		y, v := x.Clone(), w.clone()
		var universe []api.Fact
		for range steps {
			f := m.fact()
			universe = append(universe, f)
			if got, want := x.Put(f), w.put(f); got != want {
				t.Fatalf("%+v: Put(%+v): %d; want %d", w.l, f, got, want)
			}
			if f = pick(m, universe...); m.Intn(2) == 0 {
				if got, want := x.Take(f), w.take(f); got != want {
					t.Fatalf("%+v: Take(%+v): %d; want %d", w.l, f, got, want)
				}
			}
			if m.Intn(8) == 0 {
				x, y, w, v = y, x, v, w
			}
			if m.Intn(16) == 0 {
				y, v = x.Clone(), w.clone()
			}
		}
		hold(t, x, w, universe, names(), constants())
		hold(t, y, v, universe, names(), constants())
	})
}
