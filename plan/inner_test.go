package plan

import (
	"math/rand"
	"slices"
	"strconv"
	"testing"

	"avowal/api"
)

// asked is what a search finds that is set as it is told, and the search.
func asked(r api.Rule, l []api.Fact, set func(*search)) ([][]int32, *search) {
	d, ok := read(r, "a", -1, api.Fact{}, l)
	if !ok {
		return nil, &search{}
	}
	s := newSearch(d.relations)
	set(s)
	found := s.find(d.of)
	slices.SortFunc(found, slices.Compare)
	return found, s
}

// said is a fact of numbers.
func said(pred string, numbers ...int) api.Fact {
	f := api.Fact{At: "a", By: "a", Pred: pred}
	for _, n := range numbers {
		f.Args = append(f.Args, api.Const{Num: true, N: n})
	}
	return f
}

// tangle is a rule with many circles, each literal having three of some variables and one of some predicates.
func tangle(die *rand.Rand, names, literals int, preds ...string) (r api.Rule) {
	r.Home = api.Term{Var: "A"}
	for range literals {
		x := api.Literal{Pred: preds[die.Intn(len(preds))]}
		for _, i := range die.Perm(names)[:3] {
			x.Args = append(x.Args, api.Term{Var: "X" + strconv.Itoa(i)})
		}
		r.Body = append(r.Body, x)
	}
	return r
}

// anyTangle is one with any facts, or with those of even and odd sums: two of three numbers tell nothing of each other.
func anyTangle(die *rand.Rand) (r api.Rule, l []api.Fact) {
	if die.Intn(2) == 0 {
		r = tangle(die, 8+die.Intn(10), 10+die.Intn(12), "t")
		values := 2 + die.Intn(3)
		for range 8 + die.Intn(14) {
			l = append(l, said("t", die.Intn(values), die.Intn(values), die.Intn(values)))
		}
		return r, l
	}
	names := 8 + die.Intn(6)
	r = tangle(die, names, names-2+die.Intn(4), "even", "odd")
	for n := range 8 {
		l = append(l, said([]string{"even", "odd"}[(n+n/2+n/4)%2], n%2, n/2%2, n/4))
	}
	return r, l
}

func TestWays(t *testing.T) { // P14.2: whatever is remembered, and by what, how soon all is tried anew, and in which order: the same is found
	die := rand.New(rand.NewSource(1))
	some, anew, forgot := 0, 0, 0
	for range 300 {
		r, l := anyTangle(die)
		want, _ := asked(r, l, func(*search) {})
		if len(want) > 0 {
			some++
		}
		for range 8 {
			steady := die.Intn(3) == 0
			got, s := asked(r, l, func(s *search) {
				s.memory.most = []int{0, 1000, maxMemory}[die.Intn(3)]
				s.patience = []int{1, 2, 1 << 40}[die.Intn(3)]
				s.marks = []int{0, 2, maxMarks}[die.Intn(3)]
				if steady {
					s.turn()
				}
			})
			if !slices.EqualFunc(got, want, slices.Equal) {
				t.Fatalf("%+v, %+v: %v; want %v", r, l, got, want)
			}
			if took := held(s.memory); took > s.memory.bytes || took > max(s.memory.most, largest(s.memory)) {
				t.Fatalf("%+v, %+v: %d bytes of memory, counted as %d of %d", r, l, took, s.memory.bytes, s.memory.most)
			}
			if s.ranked && !steady {
				anew++
			}
			if s.memory.last > len(s.memory.sets) {
				forgot++
			}
		}
	}
	if some < 60 || anew < 100 || forgot < 100 {
		t.Error("only so many:", some, anew, forgot)
	}
}

// held is what a memory holds.
func held(m memory) (bytes int) {
	for key := range m.found {
		bytes += len(key)
	}
	for key := range m.sets {
		bytes += len(key)
	}
	return bytes
}

// largest is the longest key of a memory, which it may have alone, whatever its limit.
func largest(m memory) (most int) {
	for key := range m.found {
		most = max(most, len(key))
	}
	for key := range m.sets {
		most = max(most, len(key))
	}
	return most
}

func TestNames(t *testing.T) { // P14.2: what came to nothing by one value of X may come to something by another one
	pair := func(pred string, x, y string) api.Literal {
		return api.Literal{Pred: pred, Args: []api.Term{{Var: x}, {Var: y}}}
	}
	r := api.Rule{Home: api.Term{Var: "A"}, Body: []api.Literal{pair("e", "X", "Y"), pair("d", "X", "X1"), pair("f", "Y", "Z"), pair("f", "Z", "W"), pair("f", "W", "Y")}}
	around := func(first, places int) (l []api.Fact) {
		for n := range places {
			from, to := first+n, first+(n+1)%places
			l = append(l, said("f", from, to), said("f", to, from), said("e", first, from), said("d", first, n))
		}
		return l
	}
	l := append(around(1, 6), around(10, 3)...) // six around which no three steps lead, and three around which they do
	for _, marks := range []int{0, 1, 2, 8, 9, maxMarks} {
		for _, steady := range []bool{false, true} {
			got, _ := asked(r, l, func(s *search) {
				s.marks = marks
				if steady {
					s.turn()
				}
			})
			if len(got) != 18 {
				t.Error(marks, steady, len(got))
			}
		}
	}
}

func TestMarks(t *testing.T) { // P14.2: likewise by one value of Y more or less
	pair := func(pred string, x, y string) api.Literal {
		return api.Literal{Pred: pred, Args: []api.Term{{Var: x}, {Var: y}}}
	}
	r := api.Rule{Home: api.Term{Var: "A"}, Body: []api.Literal{pair("e", "X", "Y"), pair("d", "X", "X1"), pair("g", "Y", "Z"), pair("h", "Z", "W"), pair("k", "W", "Y")}}
	good := []int{7, 8, 15, 16, 22}
	l, want := []api.Fact{said("h", 0, 1), said("h", 1, 0)}, 0
	for y := range 25 {
		l = append(l, said("g", y, y%2))
		if slices.Contains(good, y) {
			l = append(l, said("k", 1-y%2, y))
		} else {
			l = append(l, said("k", y%2, y))
		}
	}
	for x := range 24 {
		l = append(l, said("d", x, x))
		for y := range 25 {
			if y > x && y < 24 { // so that none of them has all
				continue
			}
			l = append(l, said("e", x, y))
			if slices.Contains(good, y) {
				want++
			}
		}
	}
	for _, marks := range []int{24, 25, maxMarks} {
		got, s := asked(r, l, func(s *search) {
			s.marks = marks
			s.turn()
		})
		if len(got) != want || s.memory.last == 0 {
			t.Error(marks, len(got), want, s.memory.last)
		}
	}
}

func TestNoTrying(t *testing.T) { // R1: where there is no circle, each value that is tried leads to a body
	die := rand.New(rand.NewSource(2))
	some := 0
	for range 3000 {
		var vars [][]string
		fresh := 0
		r := api.Rule{Home: api.Term{Var: "A"}}
		for range 1 + die.Intn(9) {
			var own []string
			if len(vars) > 0 {
				own = slices.Clone(vars[die.Intn(len(vars))])
				die.Shuffle(len(own), func(i, j int) { own[i], own[j] = own[j], own[i] })
				own = own[:1+die.Intn(len(own))]
			}
			for len(own) == 0 || len(own) < 4 && die.Intn(3) > 0 {
				own = append(own, "X"+strconv.Itoa(fresh))
				fresh++
			}
			vars = append(vars, own)
			x := api.Literal{Pred: "t" + strconv.Itoa(len(own))}
			for _, v := range own {
				x.Args = append(x.Args, api.Term{Var: v})
			}
			r.Body = append(r.Body, x)
		}
		die.Shuffle(len(r.Body), func(i, j int) { r.Body[i], r.Body[j] = r.Body[j], r.Body[i] })
		var l []api.Fact
		for size := 1; size <= 4; size++ {
			for range 1 + die.Intn(6) {
				l = append(l, said("t"+strconv.Itoa(size), []int{die.Intn(3), die.Intn(3), die.Intn(3), die.Intn(3)}[:size]...))
			}
		}
		got, s := asked(r, l, func(*search) {})
		if s.memory.last > 0 || s.now > len(got)*s.given {
			t.Fatalf("%+v, %+v: %d bodies, but %d values tried, %d parts", r, l, len(got), s.now, s.memory.last)
		}
		if len(got) > 1 {
			some++
		}
	}
	if some < 500 {
		t.Error("only so many:", some)
	}
}
