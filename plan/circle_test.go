package plan_test

import (
	"fmt"
	"math/rand"
	"runtime"
	"runtime/debug"
	"slices"
	"strconv"
	"testing"
	"time"

	"avowal/api"
	"avowal/fact"
	"avowal/match"
	"avowal/plan"
)

// Rules whose literals hang together in circles, or not at all: what begins well is far more than what is given and found.

// x is the variable with a number.
func x(i int) api.Term { return variable("X" + strconv.Itoa(i)) }

func literal(pred string, args ...api.Term) api.Literal {
	return api.Literal{Pred: pred, Args: args}
}

// say is a fact of numbers that a says at home.
func say(pred string, args ...int) api.Fact {
	f := fact.Own("a", pred)
	for _, n := range args {
		f.Args = append(f.Args, num(n))
	}
	return f
}

func of(body []api.Literal) api.Rule {
	return api.Rule{Home: variable("A"), Pred: "p", Body: body}
}

// soon asks for all bodies, and ends the test if they do not come, or if the call takes more memory in all, one piece behind the other, than some megabytes.
func soon(t *testing.T, name string, body []api.Literal, l []api.Fact, megabytes int) [][]api.Fact {
	t.Helper()
	defer time.AfterFunc(30*time.Second, func() { panic(name + ": no answer") }).Stop()
	var ahead, behind runtime.MemStats
	runtime.ReadMemStats(&ahead)
	got := plan.Bodies(of(body), "a", -1, api.Fact{}, l)
	runtime.ReadMemStats(&behind)
	if took := (behind.TotalAlloc - ahead.TotalAlloc) >> 20; took > uint64(megabytes) {
		t.Errorf("%s: %d megabytes", name, took)
	}
	if !ordered(got) {
		t.Errorf("%s: not in order", name)
	}
	return got
}

// holds tells of bodies as many as a rule's literals whether they match, one behind the other.
func holds(t *testing.T, body []api.Literal, l []api.Fact, got [][]api.Fact) {
	t.Helper()
	for _, b := range got {
		env, ok := match.Unify(variable("A"), text("a"), nil)
		for i := 0; ok && i < len(body); i++ {
			env, ok = match.Literal(variable("A"), body[i], b[i], env)
			ok = ok && fact.Has(l, b[i])
		}
		if !ok || len(b) != len(body) {
			t.Fatalf("%+v does not match", b)
		}
	}
}

// apart is r(X0), .., q(1, 1, X0), .. of some variables, with so many facts of r and q.
func apart(variables, rs, qs int) (body []api.Literal, l []api.Fact) {
	for i := range variables {
		body = append(body, literal("r", x(i)))
	}
	for i := range variables {
		body = append(body, literal("q", number(1), number(1), x(i)))
	}
	for n := range rs {
		l = append(l, say("r", n))
	}
	for n := range qs {
		l = append(l, say("q", 1, 1, n))
	}
	return body, l
}

// around is r(X0, X1), r(X1, X2), .. back to X0, and q(1, 1, 1, X0), .., with facts that go around some places.
func around(steps, places int) (body []api.Literal, l []api.Fact) {
	for i := range steps {
		body = append(body, literal("r", x(i), x((i+1)%steps)))
	}
	for i := range steps {
		body = append(body, literal("q", number(1), number(1), number(1), x(i)))
	}
	for n := range places {
		l = append(l, say("r", n, (n+1)%places), say("q", 1, 1, 1, n))
	}
	return body, l
}

func TestApart(t *testing.T) { // P14.2, R1: literals that have nothing in common but what others leave
	for _, one := range []struct{ variables, rs, qs, want int }{
		{16, 1, 24, 1}, {16, 0, 24, 0}, {16, 1, 0, 0}, {3, 3, 24, 27}, {10, 2, 24, 1024}, {64, 1, 4096, 1}, {1000, 1, 1000, 1}, {1000, 4000, 1, 1},
	} {
		body, l := apart(one.variables, one.rs, one.qs)
		got := soon(t, fmt.Sprint("apart ", one), body, l, 64)
		if len(got) != one.want {
			t.Errorf("%+v: %d", one, len(got))
		}
		holds(t, body, l, got)
	}
}

func TestAround(t *testing.T) { // P14.2, R1: one circle, more or less long than that of the facts
	for _, one := range []struct{ steps, places, want int }{
		{12, 11, 0}, {12, 12, 12}, {12, 6, 6}, {12, 1, 1}, {12, 13, 0}, {2, 4096, 0}, {3, 4000, 0}, {100, 99, 0}, {100, 50, 50}, {300, 299, 0},
	} {
		body, l := around(one.steps, one.places)
		got := soon(t, fmt.Sprint("around ", one), body, l, 64)
		if len(got) != one.want {
			t.Errorf("%+v: %d", one, len(got))
		}
		holds(t, body, l, got)
	}
}

// others are facts of pairs of different numbers.
func others(many int) (l []api.Fact) {
	for i := range many {
		for j := range many {
			if i != j {
				l = append(l, say("e", i, j))
			}
		}
	}
	return l
}

// clique has a literal for each pair of variables.
func clique(from, to int) (body []api.Literal) {
	for i := from; i < to; i++ {
		for j := from; j < i; j++ {
			body = append(body, literal("e", x(j), x(i)))
		}
	}
	return body
}

func TestColours(t *testing.T) { // P14.2, R1: each literal asks for two different ones
	for many := 2; many <= 10; many++ { // one more than there are
		if got := soon(t, fmt.Sprint("clique ", many), clique(0, many+1), others(many), 64); len(got) != 0 {
			t.Fatal(many, len(got))
		}
	}
	for many, want := 2, 2; many <= 6; many, want = many+1, want*(many+1) { // each order of them
		got := soon(t, fmt.Sprint("clique ", many), clique(0, many), others(many), 64)
		if len(got) != want {
			t.Fatal(many, len(got), want)
		}
		holds(t, clique(0, many), others(many), got)
	}
	var grid []api.Literal // of 100 variables, in the corner of which four are each another one: with three colours none is found, though very much begins well
	for i := range 10 {
		for j := range 9 {
			grid = append(grid, literal("e", x(10*i+j), x(10*i+j+1)), literal("e", x(10*j+i), x(10*j+10+i)))
		}
	}
	for _, at := range []int{0, 45, 99} {
		body := slices.Concat(grid, clique(200, 204), []api.Literal{literal("e", x(at), x(200))})
		if got := soon(t, fmt.Sprint("grid ", at), body, others(3), 256); len(got) != 0 {
			t.Fatal(at, len(got))
		}
		slices.Reverse(body)
		if got := soon(t, fmt.Sprint("grid, reversed ", at), body, others(3), 256); len(got) != 0 {
			t.Fatal(at, len(got))
		}
	}
	for odd := range 9 { // around which two colours go, if it is even
		steps := 3 + odd
		body, _ := around(steps, 0)
		for i := range body {
			body[i].Pred = "e"
		}
		if got := soon(t, fmt.Sprint("two colours ", steps), body[:steps], others(2), 1); len(got) != 2*((steps+1)%2) {
			t.Fatal(steps, len(got))
		}
	}
}

// sums are literals on a grid that goes around both ways: at each place the four variables about it have an even sum, at odd of the places an odd one.
func sums(wide, high, odd int) (body []api.Literal, l []api.Fact) {
	beside := func(i, j int) api.Term { return x(2 * (i%wide*high + j%high)) }
	below := func(i, j int) api.Term { return x(2*(i%wide*high+j%high) + 1) }
	for i := range wide {
		for j := range high {
			pred := "even"
			if len(body) < odd {
				pred = "odd"
			}
			body = append(body, literal(pred, beside(i, j), beside(i+1, j), below(i, j), below(i, j+1)))
		}
	}
	for n := range 16 {
		pred := []string{"even", "odd"}[(n+n/2+n/4+n/8)%2]
		l = append(l, say(pred, n%2, n/2%2, n/4%2, n/8))
	}
	return body, l
}

func TestSums(t *testing.T) { // P14.2, R1: whatever three of the four are tells nothing of each other
	for _, one := range []struct{ wide, high, odd, want int }{
		{2, 2, 1, 0}, {3, 3, 1, 0}, {4, 4, 3, 0}, {4, 5, 1, 0}, {2, 40, 1, 0}, {40, 2, 1, 0}, {3, 9, 1, 0}, {2, 2, 0, 32}, {3, 2, 2, 128}, {3, 3, 2, 1024},
	} {
		body, l := sums(one.wide, one.high, one.odd)
		got := soon(t, fmt.Sprint("sums ", one), body, l, 256)
		if len(got) != one.want {
			t.Errorf("%+v: %d", one, len(got))
		}
		holds(t, body, l, got)
	}
}

func TestPartsApart(t *testing.T) { // P14.2, R1: circles that have nothing in common, of which one comes to nothing, or all to something
	l := append(facts("a f 0 1; a f 1 2; a f 2 3; a f 3 4; a f 4 5; a f 5 0"), others(3)...)
	triangles := func(many int, last string) (body []api.Literal) {
		for i := range many {
			pred := "e"
			if i == many-1 {
				pred = last
			}
			for j := range 3 {
				body = append(body, literal(pred, x(3*i+j), x(3*i+(j+1)%3)))
			}
		}
		return body
	}
	for many := 1; many <= 24; many++ {
		body := triangles(many, "f")
		if got := soon(t, fmt.Sprint("triangles ", many), body, l, 8); len(got) != 0 {
			t.Fatal(many, len(got))
		}
		slices.Reverse(body)
		if got := soon(t, fmt.Sprint("triangles, reversed ", many), body, l, 8); len(got) != 0 {
			t.Fatal(many, len(got))
		}
	}
	for many, want := 1, 6; many <= 4; many, want = many+1, want*6 {
		body := triangles(many, "e")
		got := soon(t, fmt.Sprint("triangles ", many), body, l, 64)
		if len(got) != want {
			t.Fatal(many, len(got))
		}
		holds(t, body, l, got)
	}
}

func TestDeadEnds(t *testing.T) { // R1: a value by which one part comes to nothing is let go ahead of going through the others
	body := []api.Literal{literal("e", x(1), x(2)), literal("e", x(2), x(3)), literal("e", x(3), x(1))}
	for i := 1; i <= 3; i++ {
		body = append(body, literal("c", x(0), x(i)))
	}
	for i := 4; i < 40; i++ {
		body = append(body, literal("g", x(0), x(i)), literal("u", x(i)))
	}
	l := append(others(3), facts("a c 0 0; a c 0 1; a c 1 0; a c 1 1; a c 1 2; a g 0 0; a g 0 1; a g 1 0; a u 0; a u 1")...)
	got := soon(t, "dead ends", body, l, 8) // by 0 three may be 0 and 1 alone, and all others both; by 1 all others are 0
	if len(got) != 6 {
		t.Error(len(got))
	}
	holds(t, body, l, got)
}

func TestNoCircle(t *testing.T) { // R1: long rules in which neighbours share one, two or three variables: what does not lead to the end is found without trying
	die := rand.New(rand.NewSource(6))
	for width := 2; width <= 5; width++ {
		var body []api.Literal
		for i := range 2000 {
			var args []api.Term
			for j := range width {
				args = append(args, x(i+j))
			}
			body = append(body, literal("e", args...))
		}
		body = append(body, literal("never", x(2000)))
		var l []api.Fact
		for range 300 {
			f := say("e")
			for range width {
				f.Args = append(f.Args, num(die.Intn(5)))
			}
			l = append(l, f)
		}
		for range 2 {
			if got := soon(t, fmt.Sprint("chain ", width), body, append(l, say("never", 5)), 128); len(got) != 0 {
				t.Fatal(width, len(got))
			}
			die.Shuffle(len(body), func(i, j int) { body[i], body[j] = body[j], body[i] })
		}
	}
	var steps []api.Literal // of which each is not less than the one ahead
	for i := range 300 {
		steps = append(steps, literal("e", x(i), x(i+1)))
	}
	l := []api.Fact{say("e", 0, 0), say("e", 0, 1), say("e", 1, 1)}
	got := soon(t, "steps", steps, l, 64)
	if len(got) != 302 {
		t.Fatal(len(got))
	}
	holds(t, steps, l, got)
}

func TestLongCircles(t *testing.T) { // R1: a long row of circles, and full tables
	ring := func(many int) (body []api.Literal) {
		for i := range many {
			a, b, c, d := x(3*i), x(3*i+1), x(3*i+2), x(3*i+3)
			body = append(body, literal("e", a, b), literal("e", b, d), literal("e", a, c), literal("e", c, d), literal("n", b, c))
		}
		return body
	}
	l := append(others(3), say("n", 0, 1), say("n", 1, 0))
	body := append(ring(300), literal("e", x(0), x(900)))
	if got := soon(t, "row of circles", body, l, 256); len(got) != 0 { // b and c are 0 and 1: a and d are 2
		t.Fatal(len(got))
	}
	var path []api.Fact
	for i := range api.MaxTable {
		path = append(path, say("e", i, i+1))
	}
	for _, steps := range []int{2, 3, 4, 50} {
		body, _ := around(steps, 0)
		for i := range body {
			body[i].Pred = "e"
		}
		if got := soon(t, fmt.Sprint("around a path ", steps), body[:steps], path, 64); len(got) != 0 {
			t.Fatal(steps, len(got))
		}
	}
}

func TestDeep(t *testing.T) { // R1: a variable within another one, for as many as the rule has, takes no room where calls within calls stand, of which there is but so much
	defer debug.SetMaxStack(debug.SetMaxStack(1 << 16))
	const wide = 40
	var grid []api.Literal // the four that are each another one hang on its end
	for i := range wide {
		for j := range wide - 1 {
			grid = append(grid, literal("e", x(wide*i+j), x(wide*i+j+1)), literal("e", x(wide*j+i), x(wide*j+wide+i)))
		}
	}
	body := slices.Concat(grid, clique(wide*wide, wide*wide+4), []api.Literal{literal("e", x(wide*wide-1), x(wide*wide))})
	if got := soon(t, "deep grid", body, others(3), 2000); len(got) != 0 {
		t.Error(len(got))
	}
	var rings []api.Literal // that have nothing in common, each of which is 0 0 0, though each value of each variable is one that each literal has
	for i := range 2000 {
		rings = append(rings, literal("e", x(3*i), x(3*i+1)), literal("e", x(3*i+1), x(3*i+2)), literal("f", x(3*i+2), x(3*i)))
	}
	l := facts("a e 0 0; a e 1 1; a f 0 0; a f 0 1; a f 1 0")
	got := soon(t, "many rings", rings, l, 256)
	if len(got) != 1 {
		t.Error(len(got))
	}
	holds(t, rings[:3], l, [][]api.Fact{got[0][:3]})
}

// circle is a rule of few variables with many literals, and facts that they may take.
func circle(k maker) (r api.Rule, l []api.Fact) {
	names, values := 2+k.Intn(6), 2+k.Intn(3)
	term := func() api.Term {
		if k.Intn(12) == 0 {
			return number(k.Intn(values))
		}
		return x(k.Intn(names))
	}
	preds := []string{"u", "e", "f", "e", "t"}
	size := map[string]int{"u": 1, "e": 2, "f": 2, "t": 3}
	r = of(nil)
	for range 3 + k.Intn(7) {
		pred := pick(k, preds...)
		x := literal(pred)
		for range size[pred] {
			x.Args = append(x.Args, term())
		}
		r.Body = append(r.Body, x)
	}
	for _, pred := range preds {
		for range k.Intn(3 * values * size[pred]) {
			f := say(pred)
			for range size[pred] {
				f.Args = append(f.Args, num(k.Intn(values)))
			}
			l = append(l, f)
		}
	}
	return r, fact.Sorted(l...)
}

func TestManyCircles(t *testing.T) { // P14.2 by its words, of many rules with many literals of few variables
	die := rand.New(rand.NewSource(7))
	some, several, nothing := 0, 0, 0
	for range 5000 {
		k := maker{die, 0}
		r, l := circle(k)
		f, first := api.Fact{}, -1
		if k.Intn(2) == 0 && len(l) > 0 {
			f, first = pick(k, l...), k.first(r)
		}
		switch many := len(holdBodies(t, r, "a", first, f, l)); {
		case many == 0:
			nothing++
		case many > 1:
			several++
		default:
			some++
		}
	}
	if some < 200 || several < 800 || nothing < 800 {
		t.Error("only so many:", some, several, nothing)
	}
}
