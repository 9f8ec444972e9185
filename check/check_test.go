package check_test

import (
	"math"
	"math/rand"
	"slices"
	"strconv"
	"strings"
	"testing"

	"avowal/api"
	"avowal/check"
	"avowal/parse"
	"avowal/show"
)

func TestExamples(t *testing.T) { // the chapter's
	for s, want := range map[string]finding{
		"A: p(X) :- q(Y).":           {api.ErrRange, 0, -1},
		"A: p() :- q() at X.":        {api.ErrFree, 0, 0},
		"A: p() :- q(X) at X.":       {api.ErrFree, 0, 0},
		"A: p() :- r(X), q(X) at X.": {api.OK, -1, -1},
		"5: p() :- q().":             {api.ErrPlace, 0, -1},
	} {
		tells(t, want, program(t, s)...)
	}
}

func TestExamplesOfTheWhole(t *testing.T) { // the document's
	for _, s := range []string{
		"A: p(X) :- q(X).", "A: p(X) to B :- q(X, B).", "A: ok(X) :- B says p(X), trusts(B). b: p(X) to a :- q(X).", "A: p(X) :- q(B), r(X) at B.", "A: p(X) :- p(X).", "a: t(X, Z) :- t(X, Y), e(Y, Z). a: t(X, Y) :- e(X, Y).",
	} {
		mayRun(t, program(t, s)...)
	}
}

func TestNumbersOfErrors(t *testing.T) { // DOC.md: layer 10 has those from 100 on; ErrMany is layer 8's
	if api.ErrMany != 81 || api.ErrShape != 100 || api.ErrPlace != 101 || api.ErrArity != 102 || api.ErrFree != 103 || api.ErrRange != 104 || api.MaxRules != 16 {
		t.Error("other numbers")
	}
}

// words are the variables of a text with blanks between.
func words(s string) []string { return strings.Fields(s) }

func TestVars(t *testing.T) { // P10.1 and P10.3: written out
	for s, want := range map[string]string{
		"a: p() :- q().":                                "",
		"A: p() :- q().":                                "A",
		"A: p() :- q(A).":                               "A",
		"A: p() :- q(B, A).":                            "A B",
		"a: p() :- q(B, A, B).":                         "B A",
		"a: p() :- C says q(B) at A.":                   "C B A",
		"A: p() :- C says q(B) at A.":                   "A C B",
		"a: p() :- q(X, Y, Z, X), r(Z, W).":             "X Y Z W",
		"a: p() :- q(C) at B, A says r().":              "C B A",
		"a: p(X) :- q().":                               "",
		"a: p(X, Y) to Z :- q().":                       "",
		"A: p(X, Y) to Z :- q(Y).":                      "A Y",
		"A: p(Z, Y, X) to W :- q(X), r(Y), s(Z), t(W).": "A X Y Z W",
		"Z: p(A) to B :- Y says q(D, C) at X, X says r(C, B) at Z, s(A).": "Z Y D C X B A",
		`"A": p("B") to "C" :- "D" says q("E") at "F".`:                   "",
		"a: p() :- X says q() at X, X says r(X) at X.":                    "X",
		"A: p() :- A1 says q(Aa, AA) at A_.":                              "A A1 Aa AA A_",
	} {
		r := rule(t, s)
		if got := check.Vars(r); !slices.Equal(got, words(want)) {
			t.Errorf("Vars of %s: %q, want %s", s, got, want)
		}
		wantedVars(t, r)
	}
}

func TestBound(t *testing.T) { // P10.1 and P10.3: written out
	for s, want := range map[string][]string{
		"a: p(X) to Y :- q().":                                         {"", ""},
		"A: p() :- q(X).":                                              {"A", "A X"},
		"a: p() :- q(X).":                                              {"", "X"},
		"A: p() :- q(), r(), s(), t().":                                {"A", "A", "A", "A", "A"},
		"A: p() :- B says q(C) at D, E says r(F) at G.":                {"A", "A B C D", "A B C D E F G"},
		"A: p(H) :- q(D, C) at B, q(B, A), r(A, D), E says s(C) at H.": {"A", "A D C B", "A D C B", "A D C B", "A D C B E H"},
	} {
		r := rule(t, s)
		for k, one := range want {
			if got := check.Bound(r, k); !slices.Equal(got, words(one)) {
				t.Errorf("Bound(%d) of %s: %q, want %s", k, s, got, one)
			}
		}
		for _, k := range []int{-1, -2, -len(want), math.MinInt, math.MinInt + 1, math.MinInt32} {
			if got := check.Bound(r, k); !slices.Equal(got, words(want[0])) {
				t.Errorf("Bound(%d) of %s: %q, want %s", k, s, got, want[0])
			}
		}
		for _, k := range []int{len(want), len(want) + 1, 100, math.MaxInt32, math.MaxInt - 1, math.MaxInt} {
			if got := check.Bound(r, k); !slices.Equal(got, words(want[len(want)-1])) {
				t.Errorf("Bound(%d) of %s: %q, want %s", k, s, got, want[len(want)-1])
			}
		}
		wantedVars(t, r)
	}
}

func TestEachPlaceOfAVariable(t *testing.T) { // P10.1: which places count, and from which literal on
	for _, s := range slots() {
		r := full()
		s.put(&r, variable("New"))
		want := -1 // the literal in which it stands; all of them are behind the Home
		for k, x := range r.Body {
			if slices.Contains(append(slices.Clone(x.Args), x.By, x.At), variable("New")) {
				want = k
			}
		}
		has := s.name != "Args" && s.name != "To"
		if slices.Contains(check.Vars(r), "New") != has {
			t.Errorf("%s: %q", s.name, check.Vars(r))
		}
		for k := range len(r.Body) + 2 {
			if slices.Contains(check.Bound(r, k), "New") != (has && want < k) {
				t.Errorf("%s, Bound(%d): %q", s.name, k, check.Bound(r, k))
			}
		}
		wantedVars(t, r)
	}
}

func TestVarsOfAnyShape(t *testing.T) { // P10.3: also of rules that can't be shown
	if v, b := check.Vars(api.Rule{}), check.Bound(api.Rule{}, 3); len(v) != 0 || len(b) != 0 {
		t.Errorf("the zero Rule: %q, %q", v, b)
	}
	odd := api.Rule{
		Home: api.Term{Var: "x", Val: api.Const{Num: true, N: 3, S: "h"}}, Pred: "~", Args: terms(variable("Head")), To: variable("To"),
		Body: []api.Literal{
			{By: variable(" "), Args: terms(variable("\x00"), api.Term{}, variable("x"), variable("1"), variable("é"), variable("\xff"))},
			{},
			{At: api.Term{Var: "says", Val: api.Const{S: "s"}}, Args: terms(text("T"), number(2), variable(" "))},
			{Pred: "Head"}, {}, {Args: terms(variable("\x00\x00"))},
		},
	}
	want := []string{"x", " ", "\x00", "1", "é", "\xff", "says", "\x00\x00"}
	for k, many := range []int{1, 6, 6, 7, 7, 7, 8, 8} {
		if got := check.Bound(odd, k); !slices.Equal(got, want[:many]) {
			t.Errorf("Bound(%d): %q, want %q", k, got, want[:many])
		}
	}
	if got := check.Vars(odd); !slices.Equal(got, want) {
		t.Errorf("Vars: %q, want %q", got, want)
	}
	for _, r := range unshown() {
		wantedVars(t, r)
	}
}

func TestVeryManyVariables(t *testing.T) { // R1: it ends, however great a rule is
	var r api.Rule
	for k := range 1 << 9 {
		var x api.Literal
		for i := range 1 << 9 {
			x.Args = append(x.Args, variable("V"+strconv.Itoa(k<<9+i)), variable("V"+strconv.Itoa(i)))
		}
		r.Body = append(r.Body, x)
	}
	vars := check.Vars(r)
	if len(vars) != 1<<18 {
		t.Fatal(len(vars))
	}
	for i, v := range vars {
		if v != "V"+strconv.Itoa(i) {
			t.Fatal(i, v)
		}
	}
	if got := check.Bound(r, 300); !slices.Equal(got, vars[:300<<9]) {
		t.Error(len(got))
	}
	tells(t, finding{api.ErrShape, 0, -1}, r)
}

func TestMayBeRun(t *testing.T) { // P10.2: OK, -1, -1
	mayRun(t)
	mayRun(t, []api.Rule{}...)
	short := rule(t, "a: p() :- q().")
	mayRun(t, short)
	mayRun(t, full())
	for many := range api.MaxRules + 1 {
		mayRun(t, slices.Repeat([]api.Rule{short}, many)...)
		mayRun(t, slices.Repeat([]api.Rule{full()}, many)...)
	}
	for _, s := range []string{
		"A: p(A) to A :- q().", "A: p(A, A) to A :- A says q(A) at A.", "a: p() to b :- c says q() at d.", `"5": p() to "6" :- "7" says q() at "8".`, `"A": p("X") to "Y" :- "B" says q("Z") at "W".`,
		"a: p(X, X, Y) to X :- X says q(), Y says r().", "a: p(X) :- X says q(1), r() at X, s(Y) at X, t(5) at Y.", "A: p(1, -1, 0) :- q(5).", "A: p(B) to C :- q(B, C) at A, r(C) at B, s() at C.",
		"A: p(X) :- p(X), p(1), B says p(B) at A, p(C) at B.", "A: p() :- q() at A. B: p() :- q() at B.", "A: p(X) :- q(X). B: r(X) :- p(X). C: q(Y) :- r(Y).",
	} {
		mayRun(t, program(t, s)...)
	}
}

func TestMany(t *testing.T) { // P10.2: ahead of all else
	many := finding{api.ErrMany, -1, -1}
	for _, n := range []int{17, 18, 32, 100, 5000} {
		tells(t, many, slices.Repeat([]api.Rule{full()}, n)...)
		tells(t, many, make([]api.Rule, n)...)
		for _, i := range []int{0, 1, 15, 16, n - 1} {
			for _, b := range breaks() {
				l := slices.Repeat([]api.Rule{full()}, n)
				l[i] = copied(l[i])
				b.do(&l[i])
				tells(t, many, l...)
			}
		}
	}
}

func TestShape(t *testing.T) { // P10.2: each reason for which show.Rule refuses a rule
	for _, r := range unshown() {
		if _, e := show.Rule(r); e != api.ErrShape {
			t.Fatalf("it can be shown: %+v", r)
		}
		tells(t, finding{api.ErrShape, 0, -1}, r)
		tells(t, finding{api.ErrShape, 0, -1}, r, full())
		tells(t, finding{api.ErrShape, 1, -1}, full(), r)
		tells(t, finding{api.ErrShape, 0, -1}, r, r)
	}
	for n := 1; n <= api.MaxRules; n++ {
		for i := range n {
			l := slices.Repeat([]api.Rule{full()}, n)
			l[i].Pred = "to"
			tells(t, finding{api.ErrShape, i, -1}, l...)
			l[i] = api.Rule{}
			tells(t, finding{api.ErrShape, i, -1}, l...)
		}
	}
}

// headless is a rule whose head has no variable, so that none lacks in its body.
func headless(r api.Rule) api.Rule {
	r = copied(r)
	for i, t := range r.Args {
		if t.Var != "" {
			r.Args[i] = number(0)
		}
	}
	return r
}

// isPlace tells where a slot of a principal stands: -1 or a literal's number.
func isPlace(s slot) (place int, is bool) {
	r := full()
	s.put(&r, text("here"))
	for k, x := range r.Body {
		if x.By == text("here") || x.At == text("here") {
			return k, true
		}
	}
	return -1, r.Home == text("here") || r.To == text("here")
}

func TestPlace(t *testing.T) { // P10.2: a number at each place, and where it may stand
	asked := map[int]int{}
	for _, s := range slots() {
		place, is := isPlace(s)
		if is {
			asked[place]++
		}
		for _, n := range []int{0, 1, -1, 5, math.MaxInt, math.MinInt} {
			r := full()
			s.put(&r, number(n))
			wanted(t, full(), r)
			if !is {
				mayRun(t, headless(r))
				continue
			}
			tells(t, finding{api.ErrPlace, 0, place}, r)
			tells(t, finding{api.ErrPlace, 0, place}, r, full())
			tells(t, finding{api.ErrPlace, 1, place}, full(), r)
			tells(t, finding{api.ErrPlace, 15, place}, append(slices.Repeat([]api.Rule{full()}, 15), r)...)
		}
		r := full()
		s.put(&r, text("5")) // a text, whatever its bytes are
		if e := told(r).e; e == api.ErrPlace || e == api.ErrShape {
			t.Errorf("%s: %d", s.name, e)
		}
	}
	for place := -1; place < api.MaxBody; place++ {
		if asked[place] != 2 {
			t.Errorf("place %d: %d slots", place, asked[place])
		}
	}
	for s, want := range map[string]finding{
		"1: p() :- q().":                                 {api.ErrPlace, 0, -1},
		"a: p() to 1 :- q().":                            {api.ErrPlace, 0, -1},
		"a: p() :- 1 says q().":                          {api.ErrPlace, 0, 0},
		"a: p() :- q() at 0.":                            {api.ErrPlace, 0, 0},
		"a: p() :- q(), r() at -1, 2 says q().":          {api.ErrPlace, 0, 1},
		"a: p() :- q(), r(), 2 says s() at 3, t().":      {api.ErrPlace, 0, 2},
		"a: p() :- q(). a: p() :- q(), r(), 1 says s().": {api.ErrPlace, 1, 2},
		"a: p(1) :- q(1, 2, 3, 4), r(5).":                {api.OK, -1, -1},
	} {
		tells(t, want, program(t, s)...)
	}
}

// where is one of the atoms of a program: its rule's number and its place.
type where struct{ rule, place int }

// putAtom makes an atom one of so many arguments.
func putAtom(l []api.Rule, at where, pred string, args int) {
	ones := slices.Repeat(terms(number(1)), args)
	if at.place < 0 {
		l[at.rule].Pred, l[at.rule].Args = pred, ones
		return
	}
	l[at.rule].Body[at.place].Pred, l[at.rule].Body[at.place].Args = pred, ones
}

func TestArity(t *testing.T) { // P10.2: each atom against each one ahead of it: in the same rule, in an earlier one
	blank := func() (l []api.Rule) {
		for i := range 3 {
			r := api.Rule{Home: text("a"), Pred: "head" + strconv.Itoa(i)}
			for k := range api.MaxBody {
				r.Body = append(r.Body, api.Literal{Pred: "body" + strconv.Itoa(i) + "x" + strconv.Itoa(k)})
			}
			l = append(l, r)
		}
		return l
	}
	var all []where
	for _, a := range atoms(blank()) {
		all = append(all, where{a.rule, a.place})
	}
	for j, second := range all {
		for _, first := range all[:j] {
			for a := range api.MaxArgs + 1 {
				for b := range api.MaxArgs + 1 {
					l := blank()
					putAtom(l, first, "w", a)
					putAtom(l, second, "w", b)
					want := finding{api.OK, -1, -1}
					if a != b {
						want = finding{api.ErrArity, second.rule, second.place}
					}
					tells(t, want, l...)
				}
			}
			for _, third := range all[j+1:] { // it counts where it came first, not where it came last
				l := blank()
				putAtom(l, first, "w", 2)
				putAtom(l, second, "w", 2)
				putAtom(l, third, "w", 3)
				tells(t, finding{api.ErrArity, third.rule, third.place}, l...)
				putAtom(l, second, "w", 3)
				tells(t, finding{api.ErrArity, second.rule, second.place}, l...)
				putAtom(l, third, "w", 2)
				tells(t, finding{api.ErrArity, second.rule, second.place}, l...)
			}
		}
	}
}

func TestArityWrittenOut(t *testing.T) { // P10.2
	for s, want := range map[string]finding{
		"A: p(1) :- p().":                                              {api.ErrArity, 0, 0},
		"A: p() :- p(1), p(1), p(1).":                                  {api.ErrArity, 0, 0},
		"A: p() :- q(1), q(1), q().":                                   {api.ErrArity, 0, 2},
		"A: p() :- q(), p(1), q(1).":                                   {api.ErrArity, 0, 1},
		"A: p() :- q(). A: p(1) :- q().":                               {api.ErrArity, 1, -1},
		"A: p() :- q(). A: q(1) :- q(1).":                              {api.ErrArity, 1, -1},
		"A: p() :- q(). A: r() :- q(1).":                               {api.ErrArity, 1, 0},
		"A: p() :- q(). A: r() :- s(), p(1).":                          {api.ErrArity, 1, 1},
		"A: p() :- q(1). A: r() :- p(), q(1). A: q() :- r(1).":         {api.ErrArity, 2, -1},
		"A: p() :- q(1). A: p() :- r(). B: s() :- r(1), q().":          {api.ErrArity, 2, 0},
		"A: p() :- q(). A: q() :- p(). A: p() :- r(1). A: q() :- r().": {api.ErrArity, 3, 0},
		"A: p(1) to b :- c says p(2) at d, p(3) at A.":                 {api.OK, -1, -1},
		"A: p() :- pp(1), pQ(1, 2), p_(1, 2, 3), p0(1, 2, 3, 4).":      {api.OK, -1, -1},
		"A: p(1) :- B says p() at b.":                                  {api.ErrArity, 0, 0},
		`A: p("p", 1) :- q(p), r("q").`:                                {api.OK, -1, -1},
	} {
		tells(t, want, program(t, s)...)
	}
}

// lone is a rule of so many literals, none of which has a variable, or a predicate of a full rule.
func lone(body int) api.Rule {
	r := api.Rule{Home: text("h"), Pred: "lone", Args: terms(number(1), number(2)), To: text("t")}
	for k := range body {
		r.Body = append(r.Body, api.Literal{By: text("b"), Pred: "lone" + strconv.Itoa(k), Args: terms(number(3), number(4)), At: text("c")})
	}
	return r
}

func TestFree(t *testing.T) { // P10.2: an At by a variable that stands nowhere else, or in one other place alone
	for body := 1; body <= api.MaxBody; body++ {
		for k := range body {
			with := func(put func(r *api.Rule)) api.Rule {
				r := lone(body)
				r.Body[k].At = variable("X")
				put(&r)
				return r
			}
			free := finding{api.ErrFree, 0, k}
			tells(t, free, with(func(*api.Rule) {}))
			tells(t, free, with(func(r *api.Rule) { r.Home = variable("Y") }))
			tells(t, free, with(func(r *api.Rule) { r.Home = text("X") }))
			tells(t, free, with(func(r *api.Rule) { r.Args[0] = variable("X") }))
			tells(t, free, with(func(r *api.Rule) { r.Args[1] = variable("X") }))
			tells(t, free, with(func(r *api.Rule) { r.To = variable("X") }))
			mayRun(t, with(func(r *api.Rule) { r.Home = variable("X") }))
			for j := range body {
				want := free
				if j < k {
					want = finding{api.OK, -1, -1}
				}
				tells(t, want, with(func(r *api.Rule) { r.Body[j].By = variable("X") }))
				tells(t, want, with(func(r *api.Rule) { r.Body[j].Args[0] = variable("X") }))
				tells(t, want, with(func(r *api.Rule) { r.Body[j].Args[1] = variable("X") }))
				tells(t, free, with(func(r *api.Rule) { r.Body[j].Args[1] = text("X") }))
				first := finding{api.ErrFree, 0, min(j, k)} // an At is itself to be bound ahead
				tells(t, first, with(func(r *api.Rule) { r.Body[j].At = variable("X") }))
			}
			r := with(func(*api.Rule) {})
			tells(t, finding{api.ErrFree, 2, k}, full(), full(), r)
			other := lone(body)
			other.Home, other.Args[0] = variable("X"), variable("X")
			tells(t, finding{api.ErrFree, 1, k}, other, r) // another rule's variables are its own
		}
	}
	for s, want := range map[string]finding{
		"A: p(X) :- q() at X.":                           {api.ErrFree, 0, 0},
		"A: p() :- X says q() at X.":                     {api.ErrFree, 0, 0},
		"A: p() :- q() at X, r(X).":                      {api.ErrFree, 0, 0},
		"A: p() :- q(X), r() at Y, s() at Z.":            {api.ErrFree, 0, 1},
		"A: p() :- q(X), r(Y) at X, s() at Y, t() at Z.": {api.ErrFree, 0, 3},
		"A: p() :- q() at A, X says r() at A, s() at X.": {api.OK, -1, -1},
	} {
		tells(t, want, program(t, s)...)
	}
}

func TestRange(t *testing.T) { // P10.2: a variable of the head's Args and of To
	heads := []func(r *api.Rule){
		func(r *api.Rule) { r.Args[0] = variable("X") },
		func(r *api.Rule) { r.Args[1] = variable("X") },
		func(r *api.Rule) { r.To = variable("X") },
		func(r *api.Rule) { r.Args[0], r.Args[1], r.To = variable("X"), variable("X"), variable("X") },
	}
	for _, put := range heads {
		for body := 1; body <= api.MaxBody; body++ {
			r := lone(body)
			put(&r)
			tells(t, finding{api.ErrRange, 0, -1}, r)
			tells(t, finding{api.ErrRange, 1, -1}, full(), copied(r))
			in := func(put func(r *api.Rule)) api.Rule {
				s := copied(r)
				put(&s)
				return s
			}
			mayRun(t, in(func(r *api.Rule) { r.Home = variable("X") }))
			tells(t, finding{api.ErrRange, 0, -1}, in(func(r *api.Rule) { r.Home = variable("Y") }))
			for k := range body {
				mayRun(t, in(func(r *api.Rule) { r.Body[k].By = variable("X") }))
				mayRun(t, in(func(r *api.Rule) { r.Body[k].Args[0] = variable("X") }))
				mayRun(t, in(func(r *api.Rule) { r.Body[k].Args[1] = variable("X") }))
				tells(t, finding{api.ErrRange, 0, -1}, in(func(r *api.Rule) { r.Body[k].Args[1] = text("X") }))
				tells(t, finding{api.ErrRange, 0, -1}, in(func(r *api.Rule) { r.Body[k].By = variable("Xx") }))
			}
		}
	}
	for s, want := range map[string]finding{
		"A: p(A, X) :- q(Y).":               {api.ErrRange, 0, -1},
		"A: p(A, 1, x, X) :- q(A).":         {api.ErrRange, 0, -1},
		"A: p() to B :- q(A).":              {api.ErrRange, 0, -1},
		"A: p(B) to B :- q().":              {api.ErrRange, 0, -1},
		"A: p(X) :- q(X). A: p(X) :- q(Y).": {api.ErrRange, 1, -1},
		"A: p(B) to A :- q(C, B) at A.":     {api.OK, -1, -1},
	} {
		tells(t, want, program(t, s)...)
	}
}

// A breaking is one thing that makes a full rule, behind another full one, one that may not be run.
type breaking struct {
	e     api.Errno
	place int
	do    func(r *api.Rule)
}

// breaks are such, any of which go together.
func breaks() []breaking {
	l := []breaking{
		{api.ErrShape, -1, func(r *api.Rule) { r.Body[3].Pred = "at" }},
		{api.ErrShape, -1, func(r *api.Rule) { r.Args[1] = text(`"`) }},
		{api.ErrPlace, -1, func(r *api.Rule) { r.Home = number(5) }},
		{api.ErrRange, -1, func(r *api.Rule) { r.Args[0] = variable("Range") }},
		{api.ErrRange, -1, func(r *api.Rule) { r.To = variable("To") }},
		{api.ErrArity, -1, func(r *api.Rule) { r.Args = r.Args[:len(r.Args)-1] }},
	}
	for k := range api.MaxBody {
		l = append(l,
			breaking{api.ErrPlace, k, func(r *api.Rule) { r.Body[k].By = number(k) }},
			breaking{api.ErrArity, k, func(r *api.Rule) { r.Body[k].Args = append(r.Body[k].Args, number(k)) }},
			breaking{api.ErrFree, k, func(r *api.Rule) { r.Body[k].At = variable("Free" + strconv.Itoa(k)) }},
		)
	}
	return l
}

// firstOf is which of some breaks comes first within a rule.
func firstOf(l []breaking) breaking {
	first := l[0]
	for _, b := range l {
		if b.e < first.e || b.e == first.e && b.place < first.place {
			first = b
		}
	}
	return first
}

func TestEachBreak(t *testing.T) { // P10.2: each error alone, in each rule
	for _, b := range breaks() {
		for i := 1; i < api.MaxRules; i++ {
			l := slices.Repeat([]api.Rule{full()}, api.MaxRules)
			l[i] = full()
			b.do(&l[i])
			tells(t, finding{b.e, i, b.place}, l...)
		}
	}
}

func TestWhichFirstInARule(t *testing.T) { // P10.2: any of them together, whatever their order
	all := breaks()
	for some := 1; some < 1<<len(all); some++ {
		r := full()
		var l []breaking
		for i, b := range all {
			if some>>i&1 != 0 {
				l = append(l, b)
				b.do(&r)
			}
		}
		first := firstOf(l)
		tells(t, finding{first.e, 1, first.place}, full(), r)
		if t.Failed() {
			return
		}
	}
}

func TestWhichFirstOfTwoRules(t *testing.T) { // P10.2: an earlier rule's error, whatever they are
	for _, a := range breaks() {
		for _, b := range breaks() {
			for i := 1; i < 5; i++ {
				for j := i + 1; j < 6; j++ {
					l := slices.Repeat([]api.Rule{full()}, 6)
					l[i], l[j] = full(), full()
					a.do(&l[i])
					b.do(&l[j])
					tells(t, finding{a.e, i, a.place}, l...)
				}
			}
		}
	}
}

func TestWhichFirstWrittenOut(t *testing.T) { // P10.2
	for s, want := range map[string]finding{
		"5: p(X) :- q(Y) at Z, q().":                            {api.ErrPlace, 0, -1},
		"A: p(X) :- q() at Z, q(1), 7 says r().":                {api.ErrPlace, 0, 2},
		"A: p(X) :- q() at Z, q(1), r().":                       {api.ErrArity, 0, 1},
		"A: p(X) :- q(1) at A, q(1), r() at Z.":                 {api.ErrFree, 0, 2},
		"A: p(X) :- q(1) at A, q(1), r().":                      {api.ErrRange, 0, -1},
		"A: p(X) to 3 :- q() at 4.":                             {api.ErrPlace, 0, -1},
		"A: p(X) :- q(). 5: p() :- q(1).":                       {api.ErrRange, 0, -1},
		"A: p(X) :- q(X). 5: p() :- q(1).":                      {api.ErrPlace, 1, -1},
		"A: p(X) :- q(X). A: p() :- q().":                       {api.ErrArity, 1, -1},
		"A: p(X) :- q() at X. A: p() :- 5 says q(1).":           {api.ErrFree, 0, 0},
		"A: p() :- q(), q(1). 5: p() :- q().":                   {api.ErrArity, 0, 1},
		"A: p() :- q(), r() at B, s() at C, t() at D.":          {api.ErrFree, 0, 1},
		"A: p() to B :- q() at B.":                              {api.ErrFree, 0, 0},
		"A: p() :- q(B), r(1) at B, r() at C, D says s() at 1.": {api.ErrPlace, 0, 3},
	} {
		tells(t, want, program(t, s)...)
	}
	late := rule(t, "A: p() :- q(1), q().")
	tells(t, finding{api.ErrArity, 0, 1}, late, api.Rule{})
	tells(t, finding{api.ErrShape, 0, -1}, api.Rule{}, late)
}

func TestManyPrograms(t *testing.T) { // P10.1 to P10.3: against their words
	die := rand.New(rand.NewSource(10))
	count := map[api.Errno]int{}
	places := map[finding]int{}
	for i := range 12000 {
		m := maker{die, []int{0, 20, 100, 500}[i%4]}
		f := wanted(t, m.rules(i/4%(api.MaxRules+2))...)
		count[f.e]++
		places[finding{f.e, 0, f.place}]++
		if t.Failed() {
			return
		}
	}
	for _, e := range []api.Errno{api.OK, api.ErrMany, api.ErrShape, api.ErrPlace, api.ErrArity, api.ErrFree, api.ErrRange} {
		if count[e] < 200 {
			t.Errorf("error %d: only %d programs", e, count[e])
		}
	}
	for place := range api.MaxBody {
		for _, e := range []api.Errno{api.ErrPlace, api.ErrArity, api.ErrFree} {
			if places[finding{e, 0, place}] < 5 {
				t.Errorf("error %d at %d: only %d programs", e, place, places[finding{e, 0, place}])
			}
		}
	}
}

// without is a program without those of its rules of which a bit is 0.
func without(l []api.Rule, bits int) (m []api.Rule) {
	for i, r := range l {
		if bits>>i&1 != 0 {
			m = append(m, r)
		}
	}
	return m
}

func TestLeftOut(t *testing.T) { // P10.4
	die := rand.New(rand.NewSource(104))
	runs := 0
	for i := range 2000 {
		l := maker{die, 200 * (i % 2)}.rules(i % (api.MaxRules + 1))
		if told(l...).e != api.OK {
			continue
		}
		runs++
		for range 40 {
			mayRun(t, without(l, die.Intn(1<<len(l)))...)
		}
		for i := range l {
			mayRun(t, without(l, 1<<i)...)
			mayRun(t, without(l, ^(1<<i))...)
			mayRun(t, l[:i]...)
			mayRun(t, l[i:]...)
		}
		if len(l) <= 6 {
			for bits := range 1 << len(l) {
				mayRun(t, without(l, bits)...)
			}
		}
	}
	if runs < 1000 {
		t.Error("only so many programs that may be run:", runs)
	}
}

// renamed is a rule in which a variable has another name, wherever it stands.
func renamed(r api.Rule, old, name string) api.Rule {
	r = copied(r)
	do := func(t *api.Term) {
		if t.Var == old {
			t.Var = name
		}
	}
	all := func(l []api.Term) {
		for i := range l {
			do(&l[i])
		}
	}
	do(&r.Home)
	do(&r.To)
	all(r.Args)
	for k := range r.Body {
		do(&r.Body[k].By)
		do(&r.Body[k].At)
		all(r.Body[k].Args)
	}
	return r
}

// everyVariable are those of a rule with those that stand in its head alone, each once.
func everyVariable(r api.Rule) []string {
	all := append(wantVars(r), variablesOf(append(slices.Clone(r.Args), r.To)...)...)
	slices.Sort(all)
	return slices.Compact(all)
}

func TestAnotherName(t *testing.T) { // P10.4: of one variable of one rule; also where the answer is an error
	die := rand.New(rand.NewSource(41))
	count := map[api.Errno]int{}
	names := []string{"New", "A", "B", "X", "Y", "Z", "V", "A_", "X1", "V" + strings.Repeat("v", api.MaxText-1)}
	for i := range 3000 {
		l := maker{die, 30 * (i % 4)}.rules(i % (api.MaxRules + 2))
		want := told(l...)
		for i, r := range l {
			for _, old := range everyVariable(r) {
				name := pick(die, names)
				if slices.Contains(everyVariable(r), name) || !strings.Contains("ABCXYZ", old) {
					continue
				}
				m := slices.Clone(l)
				m[i] = renamed(r, old, name)
				tells(t, want, m...)
				count[want.e]++
				vars := check.Vars(r)
				for k, v := range vars {
					if v == old {
						vars[k] = name
					}
				}
				if got := check.Vars(m[i]); !slices.Equal(got, vars) {
					t.Errorf("Vars: %q, want %q", got, vars)
				}
				for k := range len(r.Body) + 1 {
					many := len(check.Bound(r, k))
					if got := check.Bound(m[i], k); !slices.Equal(got, vars[:many]) {
						t.Errorf("Bound(%d): %q, want %q", k, got, vars[:many])
					}
				}
			}
		}
	}
	for _, e := range []api.Errno{api.OK, api.ErrMany, api.ErrShape, api.ErrPlace, api.ErrArity, api.ErrFree, api.ErrRange} {
		if count[e] < 500 {
			t.Errorf("error %d: only %d other names", e, count[e])
		}
	}
}

// hard are rules with whatever may be in their fields.
func hard() (l []api.Rule) {
	huge := strings.Repeat("X", 1<<20)
	l = []api.Rule{{}, {Body: make([]api.Literal, 1<<16)}, {Args: make([]api.Term, 1<<16)}, {Pred: huge}, {Home: variable(huge)}, {Home: text(huge), To: text(huge)}}
	for _, s := range []string{"", "X", "\x00", "\xff", "X0", `"`, huge, strings.Repeat("%", 1<<20)} {
		for _, n := range []int{0, 1, math.MinInt, math.MaxInt} {
			for _, num := range []bool{false, true} {
				c := api.Const{Num: num, N: n, S: s}
				for _, term := range []api.Term{{Var: s, Val: c}, {Val: c}, {Var: s}} {
					r := full()
					for _, at := range slots() {
						one := full()
						at.put(&one, term)
						r = copied(r)
						at.put(&r, term)
						l = append(l, one, r)
					}
				}
			}
		}
	}
	return l
}

func TestNoPanic(t *testing.T) { // R1
	for _, r := range hard() {
		wanted(t, r)
		tells(t, wantProgram([]api.Rule{full(), r}), full(), r)
	}
}

// roomy is a rule whose lists have spare room with things in it.
func roomy(r api.Rule) api.Rule {
	spare := func(l []api.Term) []api.Term { return append(slices.Clone(l), variable("Spare"), number(5))[:len(l)] }
	r.Args = spare(r.Args)
	r.Body = append(slices.Clone(r.Body), api.Literal{Pred: "spare", Args: terms(variable("Spare"))})[:len(r.Body)]
	for i := range r.Body {
		r.Body[i].Args = spare(r.Body[i].Args)
	}
	return r
}

// withRoom is a rule whose lists have what stands in their spare room too.
func withRoom(r api.Rule) api.Rule {
	r.Args = r.Args[:cap(r.Args)]
	r.Body = r.Body[:cap(r.Body)]
	r = copied(r)
	for i := range r.Body {
		r.Body[i].Args = slices.Clone(r.Body[i].Args[:cap(r.Body[i].Args)])
	}
	return r
}

func TestNothingChanges(t *testing.T) { // R3 and R4: what is handed in, its spare room too; and the same is told again
	rules := []api.Rule{full(), {}, lone(2)}
	for _, b := range breaks() {
		r := full()
		b.do(&r)
		rules = append(rules, r)
	}
	for _, one := range rules {
		r := roomy(one)
		before := withRoom(r)
		l := append(make([]api.Rule, 0, 5), full(), r, r, lone(1))
		want, vars := told(l[:3]...), check.Vars(r)
		for range 3 {
			tells(t, want, l[:3]...)
			if got := check.Vars(r); !slices.Equal(got, vars) {
				t.Errorf("Vars: %q, then %q", vars, got)
			}
			for _, k := range ks(r) {
				check.Bound(r, k)
			}
			told(lone(3), full()) // what other programs have plays no part
			told(rule(t, "a: p() :- q0()."))
		}
		if slices.Contains(vars, "Spare") {
			t.Errorf("Vars: %q", vars)
		}
		if !sameRule(withRoom(r), before) || !sameRules(l[:4], []api.Rule{full(), one, one, lone(1)}) {
			t.Errorf("%+v became %+v", before, withRoom(r))
		}
	}
}

func TestOwnMemory(t *testing.T) { // R3: what is told is the caller's own
	for _, r := range []api.Rule{full(), lone(2), rule(t, "A: p() :- q(X, Y), r(Z).")} {
		spoil := func(l []string) {
			l = l[:cap(l)]
			for i := range l {
				l[i] = "spoilt"
			}
		}
		vars := check.Vars(r)
		var bounds [][]string
		for k := range len(r.Body) + 2 {
			bounds = append(bounds, check.Bound(r, k))
		}
		spoil(vars)
		for k, l := range bounds {
			if want := wantBound(r, k); !slices.Equal(l, want) {
				t.Errorf("Bound(%d): %q, want %q", k, l, want)
			}
			spoil(l)
		}
		wantedVars(t, r)
	}
}

func TestHandedInAsAList(t *testing.T) { // rules one behind the other, or a list of them
	l := program(t, "A: p(X) :- q(X). A: p(X) :- q(Y). A: p(X) :- q(X).")
	tells(t, finding{api.ErrRange, 1, -1}, l...)
	tells(t, finding{api.ErrRange, 1, -1}, l[0], l[1], l[2])
	tells(t, finding{api.ErrRange, 0, -1}, l[1:]...)
	mayRun(t, l[0], l[2])
}

func FuzzCheck(f *testing.F) { // P10.1 to P10.4
	for i, s := range []string{
		"A: p(X) :- q(Y).", "A: p() :- q() at X.", "A: p() :- r(X), q(X) at X.", "5: p() :- q().", "A: p(1) :- p().", "A: p() to 5 :- q().", "A: p(X) :- B says q(X), r(B) at B. B: q(C) to D :- C says p(D).",
		"A: p() :- q(), q(1).", strings.Repeat("a:p():-q().", api.MaxRules), "", "a: p(",
	} {
		f.Add(s, "X", i, i%2 == 0, "p", i, int64(i))
	}
	for i, one := range badTerms() {
		f.Add(one.Val.S, one.Var, one.Val.N, one.Val.Num, badPreds()[i%len(badPreds())], i, int64(i))
	}
	f.Fuzz(func(t *testing.T, s, v string, n int, num bool, pred string, at int, seed int64) {
		if l, _, e := parse.Program(s); e == api.OK {
			wanted(t, l...)
		}
		die := rand.New(rand.NewSource(seed))
		l := maker{die, 60}.rules(1 + die.Intn(api.MaxRules))
		for _, one := range []api.Term{{Var: v, Val: api.Const{Num: num, N: n, S: s}}, {Val: api.Const{Num: num, N: n, S: s}}, variable(v), text(s), number(n)} {
			r := full()
			slots()[int(uint(at)%uint(len(slots())))].put(&r, one)
			wanted(t, r)
			r.Body[int(uint(at)%api.MaxBody)].Pred = pred
			wanted(t, r, full())
			l[die.Intn(len(l))] = r
			wanted(t, l...)
		}
		if bits := die.Intn(1 << len(l)); told(l...).e == api.OK {
			mayRun(t, without(l, bits)...)
		}
	})
}
