package plan

import (
	"math"
	"math/rand"
	"runtime"
	"slices"
	"strconv"
	"strings"
	"testing"
	"time"

	"avowal/api"
)

// asked is what a search finds that is set as it is told, and the search.
func asked(r api.Rule, l []api.Fact, set func(*search)) ([][]int32, *search) {
	d, ok := read(r, "a", -1, api.Fact{}, l)
	if !ok {
		return nil, &search{}
	}
	s := newSearch(d.relations)
	set(s)
	found := s.find(d.of)
	slices.SortFunc(found, slices.Compare)
	return found, s
}

// said is a fact of numbers.
func said(pred string, numbers ...int) api.Fact {
	f := api.Fact{At: "a", By: "a", Pred: pred}
	for _, n := range numbers {
		f.Args = append(f.Args, api.Const{Num: true, N: n})
	}
	return f
}

// tangle is a rule with many circles, each literal having three of some variables and one of some predicates.
func tangle(die *rand.Rand, names, literals int, preds ...string) (r api.Rule) {
	r.Home = api.Term{Var: "A"}
	for range literals {
		x := api.Literal{Pred: preds[die.Intn(len(preds))]}
		for _, i := range die.Perm(names)[:3] {
			x.Args = append(x.Args, api.Term{Var: "X" + strconv.Itoa(i)})
		}
		r.Body = append(r.Body, x)
	}
	return r
}

// anyTangle is one with any facts, or with those of even and odd sums: two of three numbers tell nothing of each other.
func anyTangle(die *rand.Rand) (r api.Rule, l []api.Fact) {
	if die.Intn(2) == 0 {
		r = tangle(die, 8+die.Intn(10), 10+die.Intn(12), "t")
		values := 2 + die.Intn(3)
		for range 8 + die.Intn(14) {
			l = append(l, said("t", die.Intn(values), die.Intn(values), die.Intn(values)))
		}
		return r, l
	}
	names := 8 + die.Intn(6)
	r = tangle(die, names, names-2+die.Intn(4), "even", "odd")
	for n := range 8 {
		l = append(l, said([]string{"even", "odd"}[(n+n/2+n/4)%2], n%2, n/2%2, n/4))
	}
	return r, l
}

// turned counts what came of searches that were set in odd ways.
type turned struct {
	some, anew, forgot, endless, halved int
}

func TestWays(t *testing.T) { // P14.2, R5: whatever is remembered, and by what, how soon all is tried anew, how much can be counted, and in which order: the same is found
	die := rand.New(rand.NewSource(1))
	var came turned
	for range 300 {
		r, l := anyTangle(die)
		want, whole := asked(r, l, func(*search) {})
		if len(want) > 0 {
			came.some++
		}
		for range 8 {
			steady, heavy := die.Intn(3) == 0, die.Intn(3) == 0
			got, s := asked(r, l, func(s *search) {
				s.memory.most = []int{0, 300, 1000, 3000, maxMemory}[die.Intn(5)]
				s.patience = []int{1, 2, 64, math.MaxInt / 2, math.MaxInt/2 + 1, math.MaxInt, endless}[die.Intn(7)]
				s.most = []int{1, 2, 3, 8, math.MaxInt}[die.Intn(5)]
				s.marks = []int{0, 2, maxMarks}[die.Intn(3)]
				if steady {
					s.turn()
				}
				for _, x := range s.variables {
					if heavy {
						x.weight = maxWeight - int32(die.Intn(4))
					}
				}
			})
			if !slices.EqualFunc(got, want, slices.Equal) {
				t.Fatalf("%+v, %+v: %v; want %v", r, l, got, want)
			}
			tidy(t, s)
			came.count(s, whole, steady, heavy)
		}
	}
	if came.some < 60 || came.anew < 100 || came.forgot < 100 || came.endless < 100 || came.halved < 100 {
		t.Errorf("only so many: %+v", came)
	}
}

// count counts what came of a search, whole being the same one without a limit.
func (c *turned) count(s, whole *search, steady, heavy bool) {
	if s.ranked && !steady {
		c.anew++
	}
	if whole.memory.bytes > s.memory.most {
		c.forgot++
	}
	if s.patience < 3 && s.left == endless {
		c.endless++
	}
	if heavy && slices.ContainsFunc(s.variables, func(x *variable) bool { return x.weight < maxWeight-4 }) {
		c.halved++
	}
}

// tidy tells whether a search that ended left all as it should.
func tidy(t *testing.T, s *search) {
	t.Helper()
	if took := held(s.memory); took > s.memory.bytes || took > max(s.memory.most, largest(s.memory)) {
		t.Fatalf("%d bytes of memory, counted as %d of %d", took, s.memory.bytes, s.memory.most)
	}
	numbers := map[int]bool{}
	for _, n := range s.memory.sets {
		numbers[n] = true
	}
	if len(numbers) != len(s.memory.sets) {
		t.Fatalf("%d sets have %d numbers", len(s.memory.sets), len(numbers))
	}
	for name := range s.memory.found {
		first, _, _ := strings.Cut(name, " ")
		if n, err := strconv.Atoi(first); err != nil || !numbers[n] {
			t.Fatalf("%q is of no set", name)
		}
	}
	if len(s.found) == 0 { // there may have been nothing to search among
		return
	}
	for _, x := range s.variables {
		if x.seen || x.lost || x.weight < 1 {
			t.Fatalf("%+v", x)
		}
	}
	for _, n := range s.relations {
		if n.seen || n.waits {
			t.Fatalf("%+v", n)
		}
	}
}

// held is what a memory holds.
func held(m memory) (bytes int) {
	for key := range m.found {
		bytes += len(key)
	}
	for key := range m.sets {
		bytes += len(key)
	}
	return bytes
}

// largest is the longest key of a memory, which it may have alone, whatever its limit.
func largest(m memory) (most int) {
	for key := range m.found {
		most = max(most, len(key))
	}
	for key := range m.sets {
		most = max(most, len(key))
	}
	return most
}

func TestNames(t *testing.T) { // P14.2: what came to nothing by one value of X may come to something by another one
	pair := func(pred string, x, y string) api.Literal {
		return api.Literal{Pred: pred, Args: []api.Term{{Var: x}, {Var: y}}}
	}
	r := api.Rule{Home: api.Term{Var: "A"}, Body: []api.Literal{pair("e", "X", "Y"), pair("d", "X", "X1"), pair("f", "Y", "Z"), pair("f", "Z", "W"), pair("f", "W", "Y")}}
	around := func(first, places int) (l []api.Fact) {
		for n := range places {
			from, to := first+n, first+(n+1)%places
			l = append(l, said("f", from, to), said("f", to, from), said("e", first, from), said("d", first, n))
		}
		return l
	}
	l := append(around(1, 6), around(10, 3)...) // six around which no three steps lead, and three around which they do
	for _, marks := range []int{0, 1, 2, 8, 9, maxMarks} {
		for _, steady := range []bool{false, true} {
			got, _ := asked(r, l, func(s *search) {
				s.marks = marks
				if steady {
					s.turn()
				}
			})
			if len(got) != 18 {
				t.Error(marks, steady, len(got))
			}
		}
	}
}

func TestMarks(t *testing.T) { // P14.2: likewise by one value of Y more or less
	pair := func(pred string, x, y string) api.Literal {
		return api.Literal{Pred: pred, Args: []api.Term{{Var: x}, {Var: y}}}
	}
	r := api.Rule{Home: api.Term{Var: "A"}, Body: []api.Literal{pair("e", "X", "Y"), pair("d", "X", "X1"), pair("g", "Y", "Z"), pair("h", "Z", "W"), pair("k", "W", "Y")}}
	good := []int{7, 8, 15, 16, 22}
	l, want := []api.Fact{said("h", 0, 1), said("h", 1, 0)}, 0
	for y := range 25 {
		l = append(l, said("g", y, y%2))
		if slices.Contains(good, y) {
			l = append(l, said("k", 1-y%2, y))
		} else {
			l = append(l, said("k", y%2, y))
		}
	}
	for x := range 24 {
		l = append(l, said("d", x, x))
		for y := range 25 {
			if y > x && y < 24 { // so that none of them has all
				continue
			}
			l = append(l, said("e", x, y))
			if slices.Contains(good, y) {
				want++
			}
		}
	}
	for _, marks := range []int{24, 25, maxMarks} {
		got, s := asked(r, l, func(s *search) {
			s.marks = marks
			s.turn()
		})
		if len(got) != want || len(s.memory.sets) == 0 {
			t.Error(marks, len(got), want, len(s.memory.sets))
		}
	}
}

// freely gives all variables all values that they still may have.
func freely(t *testing.T, s *search, l *todo) {
	t.Helper()
	if l == nil {
		return
	}
	if !s.easy(l.part) {
		t.Fatalf("%+v is not easy", l.part)
	}
	v := s.chosen(l.part)
	for _, value := range s.values(v) {
		mark := len(s.trail)
		if !s.give(v, value) {
			t.Fatalf("%d of %d leads to nothing", value, v)
		}
		freely(t, s, ahead(s.parts(l.part.variables), l.next))
		s.undo(mark)
	}
}

func TestNoTrying(t *testing.T) { // R1: where there is no circle, each value that is tried leads to a body
	die := rand.New(rand.NewSource(2))
	some := 0
	for range 3000 {
		var vars [][]string
		fresh := 0
		r := api.Rule{Home: api.Term{Var: "A"}}
		for range 1 + die.Intn(9) {
			var own []string
			if len(vars) > 0 {
				own = slices.Clone(vars[die.Intn(len(vars))])
				die.Shuffle(len(own), func(i, j int) { own[i], own[j] = own[j], own[i] })
				own = own[:1+die.Intn(len(own))]
			}
			for len(own) == 0 || len(own) < 4 && die.Intn(3) > 0 {
				own = append(own, "X"+strconv.Itoa(fresh))
				fresh++
			}
			vars = append(vars, own)
			x := api.Literal{Pred: "t" + strconv.Itoa(len(own))}
			for _, v := range own {
				x.Args = append(x.Args, api.Term{Var: v})
			}
			r.Body = append(r.Body, x)
		}
		die.Shuffle(len(r.Body), func(i, j int) { r.Body[i], r.Body[j] = r.Body[j], r.Body[i] })
		var l []api.Fact
		for size := 1; size <= 4; size++ {
			for range 1 + die.Intn(6) {
				l = append(l, said("t"+strconv.Itoa(size), []int{die.Intn(3), die.Intn(3), die.Intn(3), die.Intn(3)}[:size]...))
			}
		}
		got, s := asked(r, l, func(*search) {})
		if len(s.memory.sets) > 0 {
			t.Fatalf("%+v, %+v: %d bodies, but %d parts tried", r, l, len(got), len(s.memory.sets))
		}
		if d, ok := read(r, "a", -1, api.Fact{}, l); ok {
			if s = newSearch(d.relations); s.start() {
				all := make([]int32, s.given)
				for v := range all {
					all[v] = int32(v)
				}
				freely(t, s, ahead(s.parts(all), nil))
			}
		}
		if len(got) > 1 {
			some++
		}
	}
	if some < 500 {
		t.Error("only so many:", some)
	}
}

func TestMore(t *testing.T) { // R1, R5: what is borne is doubled as long as it can be counted; then all is borne
	for _, one := range []struct{ most, many, want int }{
		{math.MaxInt, 1, 2}, {math.MaxInt, 64, 128}, {math.MaxInt, math.MaxInt / 4, math.MaxInt / 4 * 2}, {math.MaxInt, math.MaxInt/2 - 1, math.MaxInt - 3}, {math.MaxInt, math.MaxInt / 2, math.MaxInt - 1},
		{math.MaxInt, math.MaxInt/2 + 1, endless}, {math.MaxInt, math.MaxInt - 1, endless}, {math.MaxInt, math.MaxInt, endless},
		{8, 4, 8}, {8, 5, endless}, {8, 8, endless}, {8, 9, endless}, {1, 1, endless}, {2, 1, 2}, {3, 1, 2}, {3, 2, endless},
	} {
		s := &search{most: one.most}
		if got := s.more(one.many); got != one.want {
			t.Errorf("%+v: %d", one, got)
		}
	}
	s := newSearch(nil)
	steps := 0
	for many := s.patience; many != endless; many = s.more(many) {
		if steps++; many < 1 || steps > 64 {
			t.Fatal(steps, many)
		}
	}
}

func TestFail(t *testing.T) { // R5: what is borne grows no less than none
	for _, one := range []struct{ left, want int }{{2, 1}, {1, 0}, {0, 0}, {math.MaxInt, math.MaxInt - 1}, {endless, endless}} {
		s := &search{left: one.left}
		s.fail()
		if s.left != one.want {
			t.Errorf("%+v: %d", one, s.left)
		}
	}
}

func TestEndless(t *testing.T) { // R1: what has to be borne is more than can be counted
	for many := 3; many <= 8; many++ { // each two of one more than there are numbers are different
		r := api.Rule{Home: api.Term{Var: "A"}}
		var l []api.Fact
		for i := range many + 1 {
			for j := range i {
				r.Body = append(r.Body, api.Literal{Pred: "e", Args: []api.Term{{Var: "X" + strconv.Itoa(i)}, {Var: "X" + strconv.Itoa(j)}}})
				if i < many {
					l = append(l, said("e", i, j), said("e", j, i))
				}
			}
		}
		for _, most := range []int{1, 2, 5} {
			for _, remembered := range []int{0, 2000, maxMemory} {
				got, s := asked(r, l, func(s *search) { s.patience, s.most, s.memory.most = 1, most, remembered })
				if len(got) > 0 || many > 4 && s.left != endless {
					t.Error(many, most, len(got), s.left)
				}
			}
		}
	}
}

func TestBlame(t *testing.T) { // R5: a weight that can't grow any more is halved, with all others
	s := &search{}
	for _, w := range []int32{maxWeight - 1, maxWeight, 1, 2, 3, 1000, maxWeight} {
		s.variables = append(s.variables, &variable{weight: w})
	}
	for _, one := range []struct {
		v    int32
		want []int32
	}{
		{0, []int32{maxWeight, maxWeight, 1, 2, 3, 1000, maxWeight}},
		{2, []int32{maxWeight, maxWeight, 2, 2, 3, 1000, maxWeight}},
		{1, []int32{1 << 30, 1<<30 + 1, 1, 1, 2, 500, 1 << 30}},
		{1, []int32{1 << 30, 1<<30 + 2, 1, 1, 2, 500, 1 << 30}},
	} {
		s.blame(one.v)
		for v, want := range one.want {
			if s.variables[v].weight != want {
				t.Errorf("%+v: %d has %d", one, v, s.variables[v].weight)
			}
		}
	}
	if times(math.MaxInt32, maxWeight) != math.MaxInt32*maxWeight || times(3, 5) != 15 {
		t.Error(times(math.MaxInt32, maxWeight))
	}
}

func TestChosen(t *testing.T) { // R5: of the fewest values by weight, be they as great as they can
	for _, one := range []struct {
		many, weight [3]int32
		want         int32
	}{
		{[3]int32{4, 2, 3}, [3]int32{1, 1, 1}, 1},
		{[3]int32{4, 2, 3}, [3]int32{4, 1, 2}, 0},
		{[3]int32{2, 2, 2}, [3]int32{1, 1, 1}, 0},
		{[3]int32{math.MaxInt32, math.MaxInt32 - 1, math.MaxInt32}, [3]int32{maxWeight, maxWeight, maxWeight}, 1},
		{[3]int32{math.MaxInt32, math.MaxInt32, math.MaxInt32}, [3]int32{maxWeight - 1, maxWeight - 2, maxWeight}, 2},
		{[3]int32{math.MaxInt32, 1, 2}, [3]int32{maxWeight, 1, 1}, 0},
	} {
		s := &search{}
		for i, many := range one.many {
			s.variables = append(s.variables, &variable{domain: bag{many: many}, weight: one.weight[i]})
		}
		if got := s.chosen(&part{variables: []int32{2, 0, 1}}); got != one.want {
			t.Errorf("%+v: %d", one, got)
		}
	}
}

func TestSets(t *testing.T) { // P14.2, R5: a set has one number as long as it is remembered, and no other one has it; what is named by a number that is forgotten is not put down
	m := newMemory(3*need("1234") + need("name"))
	for range 3 {
		for v := range int32(3) {
			if n := m.set([]int32{v}); n != int(v)+1 {
				t.Fatal(v, n)
			}
		}
	}
	m.put("name", impossible)
	if m.found["name"] != impossible || m.bytes != m.most {
		t.Fatal(m)
	}
	m.put("1 more", possible)
	if len(m.found) > 0 || len(m.sets) > 0 || m.bytes != 0 {
		t.Fatal(m)
	}
	for v := int32(7); v < 50; v++ {
		if n := m.set([]int32{v}); n != len(m.sets) || n > 4 || m.bytes != n*need("1234") {
			t.Fatal(v, n, m)
		}
	}
	m = newMemory(0)
	for v := range int32(3) {
		if n := m.set([]int32{v}); n != 1 || len(m.sets) != 1 {
			t.Fatal(v, n, m)
		}
		m.put("1 ", impossible)
		if len(m.found) > 0 || len(m.sets) > 0 {
			t.Fatal(m)
		}
	}
}

func TestBack(t *testing.T) { // P14.2: an attempt keeps its part no longer than it has none within it, and finds the same again
	die := rand.New(rand.NewSource(3))
	some := 0
	for range 300 {
		r, l := anyTangle(die)
		d, ok := read(r, "a", -1, api.Fact{}, l)
		if !ok {
			continue
		}
		s := newSearch(d.relations)
		if !s.start() {
			continue
		}
		all := make([]int32, s.given)
		for v := range all {
			all[v] = int32(v)
		}
		var kept []part
		var deepest *attempt
		for parts := s.parts(all); len(parts) > 0; {
			p := part{variables: slices.Sorted(slices.Values(parts[0].variables)), relations: slices.Sorted(slices.Values(parts[0].relations))}
			kept = append(kept, p)
			deepest = s.attempt(ahead(parts, nil), deepest)
			left := false
			for !left && len(deepest.values) > 0 {
				parts, left = s.giveNext(deepest)
			}
			if !left {
				break
			}
		}
		for x, i := deepest, len(kept)-1; x != nil; x, i = x.outer, i-1 {
			if (x.part != nil) != (x == deepest) {
				t.Fatal(x.part)
			}
			p := s.back(x)
			slices.Sort(p.variables)
			slices.Sort(p.relations)
			if !slices.Equal(p.variables, kept[i].variables) || !slices.Equal(p.relations, kept[i].relations) {
				t.Fatalf("%+v; want %+v", p, kept[i])
			}
			if x.outer != nil {
				some++
			}
		}
	}
	if some < 300 {
		t.Error("only so many:", some)
	}
}

func TestName(t *testing.T) { // P14.2: a part has one name, in whatever order what it has was met
	die := rand.New(rand.NewSource(4))
	some := 0
	for range 300 {
		r, l := anyTangle(die)
		d, ok := read(r, "a", -1, api.Fact{}, l)
		if !ok {
			continue
		}
		s := newSearch(d.relations)
		if !s.start() {
			continue
		}
		for v := range int32(s.given) {
			if !s.asked(v) || !s.give(v, s.values(v)[0]) {
				break
			}
			for w := range int32(s.given) {
				if !s.asked(w) {
					continue
				}
				p := s.around(w)
				want := s.name(p)
				for range 8 {
					die.Shuffle(len(p.variables), func(i, j int) { p.variables[i], p.variables[j] = p.variables[j], p.variables[i] })
					die.Shuffle(len(p.relations), func(i, j int) { p.relations[i], p.relations[j] = p.relations[j], p.relations[i] })
					if got := s.name(p); got != want {
						t.Fatalf("%+v: %q; want %q", p, got, want)
					}
				}
				if len(p.relations) > 1 {
					some++
				}
			}
		}
	}
	if some < 300 {
		t.Error("only so many:", some)
	}
}

func TestRoom(t *testing.T) { // R1: what is tried within what is tried takes no room by the square of the rule
	const wide = 60
	pair := func(i, j int) api.Literal {
		return api.Literal{Pred: "e", Args: []api.Term{{Var: "X" + strconv.Itoa(i)}, {Var: "X" + strconv.Itoa(j)}}}
	}
	r := api.Rule{Home: api.Term{Var: "A"}}
	for i := range wide {
		for j := range wide - 1 {
			r.Body = append(r.Body, pair(wide*i+j, wide*i+j+1), pair(wide*j+i, wide*j+wide+i))
		}
	}
	r.Body = append(r.Body, pair(wide*wide-1, wide*wide))
	for i := range 4 { // of which each is another one: that they can't be is found late
		for j := range i {
			r.Body = append(r.Body, pair(wide*wide+i, wide*wide+j))
		}
	}
	var l []api.Fact
	for i := range 9 {
		if i/3 != i%3 {
			l = append(l, said("e", i/3, i%3))
		}
	}
	ended, most := make(chan bool), make(chan uint64)
	go func() {
		var now runtime.MemStats
		peak := uint64(0)
		for {
			select {
			case <-ended:
				most <- peak
				return
			case <-time.After(5 * time.Millisecond):
				runtime.ReadMemStats(&now)
				peak = max(peak, now.HeapAlloc)
			}
		}
	}()
	got, _ := asked(r, l, func(s *search) { s.memory.most = 1 << 20 })
	ended <- true
	if peak := <-most; peak > 64<<20 || len(got) > 0 {
		t.Errorf("%d megabytes, %d", peak>>20, len(got))
	}
}
