package check_test

import (
	"cmp"
	"math"
	"math/rand"
	"slices"
	"strings"
	"testing"

	"avowal/api"
	"avowal/check"
	"avowal/parse"
	"avowal/show"
)

func variable(s string) api.Term { return api.Term{Var: s} }

func text(s string) api.Term { return api.Term{Val: api.Const{S: s}} }

func number(n int) api.Term { return api.Term{Val: api.Const{Num: true, N: n}} }

func terms(l ...api.Term) []api.Term { return l }

// program is what a text is parsed as.
func program(t *testing.T, s string) []api.Rule {
	t.Helper()
	l, at, e := parse.Program(s)
	if e != api.OK {
		t.Fatalf("%q: %d at %d", s, e, at)
	}
	return l
}

// rule is what the text of one is parsed as.
func rule(t *testing.T, s string) api.Rule {
	t.Helper()
	l := program(t, s)
	if len(l) != 1 {
		t.Fatalf("%q: %d rules", s, len(l))
	}
	return l[0]
}

func sameLiterals(a, b api.Literal) bool {
	return a.By == b.By && a.Pred == b.Pred && slices.Equal(a.Args, b.Args) && a.At == b.At
}

func sameRule(a, b api.Rule) bool {
	return a.Home == b.Home && a.Pred == b.Pred && slices.Equal(a.Args, b.Args) && a.To == b.To && slices.EqualFunc(a.Body, b.Body, sameLiterals)
}

func sameRules(a, b []api.Rule) bool { return slices.EqualFunc(a, b, sameRule) }

// copied is a rule whose lists are its own.
func copied(r api.Rule) api.Rule {
	r.Args = slices.Clone(r.Args)
	r.Body = slices.Clone(r.Body)
	for i := range r.Body {
		r.Body[i].Args = slices.Clone(r.Body[i].Args)
	}
	return r
}

func copiedAll(l []api.Rule) (m []api.Rule) {
	for _, r := range l {
		m = append(m, copied(r))
	}
	return m
}

// full is a rule that may be run, with all that there may be: of no predicate and no variable but its Home's is there a second one.
func full() api.Rule {
	return api.Rule{
		Home: variable("A"), Pred: "p", Args: terms(variable("X0"), number(-7), text("X"), text("x y")), To: text("b"),
		Body: []api.Literal{
			{By: variable("B0"), Pred: "q0", Args: terms(variable("X0"), variable("Y0"), number(1)), At: variable("A")},
			{By: text("c"), Pred: "q1", Args: terms(variable("X1"), variable("Y1"), number(1)), At: text("d")},
			{By: variable("B2"), Pred: "q2", Args: terms(variable("X2"), variable("Y2"), number(1)), At: variable("A")},
			{Pred: "q3", Args: terms(variable("X3"), variable("Y3"), number(1))},
		},
	}
}

// What stands from here to wantProgram is P10.1 to P10.3 by their words.

// variablesOf are those of a list of terms, one as often as it stands there.
func variablesOf(l ...api.Term) (vars []string) {
	for _, t := range l {
		if t.Var != "" {
			vars = append(vars, t.Var)
		}
	}
	return vars
}

// inLiteral are those of By, Args, At.
func inLiteral(x api.Literal) []string {
	return slices.Concat(variablesOf(x.By), variablesOf(x.Args...), variablesOf(x.At))
}

func wantVars(r api.Rule) (l []string) {
	all := variablesOf(r.Home)
	for _, x := range r.Body {
		all = append(all, inLiteral(x)...)
	}
	for i, v := range all {
		if slices.Index(all, v) == i {
			l = append(l, v)
		}
	}
	return l
}

func wantBound(r api.Rule, k int) (l []string) {
	for _, v := range wantVars(r) {
		ahead := r.Home.Var == v
		for i, x := range r.Body {
			ahead = ahead || i < k && slices.Contains(inLiteral(x), v)
		}
		if ahead {
			l = append(l, v)
		}
	}
	return l
}

// A finding is an error with a rule's number and a place.
type finding struct {
	e           api.Errno
	rule, place int
}

// An atom is where a predicate stands, with how many arguments.
type atom struct {
	rule, place int
	pred        string
	args        int
}

// atoms are all of a program's, in the order in which they come.
func atoms(l []api.Rule) (all []atom) {
	for i, r := range l {
		all = append(all, atom{i, -1, r.Pred, len(r.Args)})
		for k, x := range r.Body {
			all = append(all, atom{i, k, x.Pred, len(x.Args)})
		}
	}
	return all
}

func wantPlaces(i int, r api.Rule) (all []finding) {
	isNumber := func(t api.Term) bool { return t.Var == "" && t.Val.Num }
	if isNumber(r.Home) || isNumber(r.To) {
		all = append(all, finding{api.ErrPlace, i, -1})
	}
	for k, x := range r.Body {
		if isNumber(x.By) || isNumber(x.At) {
			all = append(all, finding{api.ErrPlace, i, k})
		}
	}
	return all
}

func wantArities(l []api.Rule) (all []finding) {
	came := atoms(l)
	for _, a := range came {
		first := came[slices.IndexFunc(came, func(b atom) bool { return b.pred == a.pred })]
		if first.args != a.args {
			all = append(all, finding{api.ErrArity, a.rule, a.place})
		}
	}
	return all
}

func wantVariables(i int, r api.Rule) (all []finding) {
	for k, x := range r.Body {
		if x.At.Var != "" && !slices.Contains(wantBound(r, k), x.At.Var) {
			all = append(all, finding{api.ErrFree, i, k})
		}
	}
	for _, v := range variablesOf(append(slices.Clone(r.Args), r.To)...) {
		if !slices.Contains(wantVars(r), v) {
			all = append(all, finding{api.ErrRange, i, -1})
		}
	}
	return all
}

// wantProgram looks for all that is wrong anywhere, and takes the first of it: of the first rule, of the error that is named first (their numbers go up so), at the first place.
func wantProgram(l []api.Rule) finding {
	if len(l) > 16 {
		return finding{api.ErrMany, -1, -1}
	}
	all := wantArities(l)
	for i, r := range l {
		if _, e := show.Rule(r); e != api.OK {
			all = append(all, finding{api.ErrShape, i, -1})
		}
		all = append(all, wantPlaces(i, r)...)
		all = append(all, wantVariables(i, r)...)
	}
	if len(all) == 0 {
		return finding{api.OK, -1, -1}
	}
	return slices.MinFunc(all, func(a, b finding) int {
		return cmp.Or(cmp.Compare(a.rule, b.rule), cmp.Compare(a.e, b.e), cmp.Compare(a.place, b.place))
	})
}

// told is what Program tells.
func told(l ...api.Rule) finding {
	e, i, place := check.Program(l...)
	return finding{e, i, place}
}

// tells checks what Program tells.
func tells(t *testing.T, want finding, l ...api.Rule) {
	t.Helper()
	if got := told(l...); got != want {
		t.Errorf("Program: %v, want %v: %s", got, want, shown(l))
	}
}

// mayRun checks that rules may be run.
func mayRun(t *testing.T, l ...api.Rule) {
	t.Helper()
	tells(t, finding{api.OK, -1, -1}, l...)
}

// shown is what rules are told as where a test fails: nobody wants to read more of them.
func shown(l []api.Rule) string {
	var s strings.Builder
	for _, r := range l {
		one, e := show.Rule(r)
		if e != api.OK {
			one = "(a rule that can't be shown)"
		}
		s.WriteString(" " + one)
	}
	return s.String()[:min(s.Len(), 1000)]
}

// ks are literals' numbers of which Bound is asked: all of a rule that can be shown.
func ks(r api.Rule) []int {
	l := []int{math.MinInt, math.MinInt + 1, -1 << 32, -2, -1}
	for k := range min(len(r.Body)+3, 9) {
		l = append(l, k)
	}
	return append(l, len(r.Body)-1, len(r.Body), len(r.Body)+1, len(r.Body)+1000, 1<<31, 1<<32, math.MaxInt-1, math.MaxInt)
}

// wantedVars holds Vars and Bound of a rule against P10.1 and P10.3.
func wantedVars(t *testing.T, r api.Rule) {
	t.Helper()
	vars := check.Vars(r)
	if want := wantVars(r); !slices.Equal(vars, want) {
		t.Errorf("Vars: %q, want %q: %s", vars, want, shown([]api.Rule{r}))
	}
	for _, k := range ks(r) {
		got := check.Bound(r, k)
		if want := wantBound(r, k); !slices.Equal(got, want) {
			t.Errorf("Bound(%d): %q, want %q: %s", k, got, want, shown([]api.Rule{r}))
		}
		if k >= len(r.Body) && !slices.Equal(got, vars) {
			t.Errorf("Bound(%d): %q, but Vars: %q", k, got, vars)
		}
	}
}

// wanted holds all calls against P10.1 to P10.3, and the rules against what they were (R3).
func wanted(t *testing.T, l ...api.Rule) finding {
	t.Helper()
	before := copiedAll(l)
	want := wantProgram(l)
	tells(t, want, l...)
	for _, r := range l {
		wantedVars(t, r)
	}
	if !sameRules(l, before) {
		t.Errorf("%+v became %+v", before, l)
	}
	return want
}

// badTerms can't be shown; none of them is none.
func badTerms() []api.Term {
	long := strings.Repeat("x", api.MaxText+1)
	return []api.Term{
		{Var: "X", Val: api.Const{Num: true}}, {Var: "A", Val: api.Const{N: 1}}, {Var: "X0", Val: api.Const{S: "X"}},
		variable("x"), variable("_X"), variable("1"), variable(" X"), variable("X "), variable("\x00"), variable("É"), variable("V" + long), variable(strings.Repeat("V", 2*api.MaxWords)),
		{Val: api.Const{Num: true, S: "1"}}, {Val: api.Const{N: 1}}, {Val: api.Const{N: 1, S: "a"}}, {Val: api.Const{Num: true, N: 5, S: "a"}},
		text(long), text("\n"), text("\x7f"), text("é"), text(`"`), text(`\`), text("a\x00"),
	}
}

// badPreds are no words, or kept ones.
func badPreds() []string {
	return []string{"", "says", "to", "at", "P", "_p", "1", "~ask0.1", "~", "p q", " p", "p ", `"p"`, "p\x00", "é", strings.Repeat("p", api.MaxText+1)}
}

// A slot is one of a full rule's at which a term stands, and how to put another one there.
type slot struct {
	name    string
	mayLack bool
	put     func(r *api.Rule, t api.Term)
}

// slots are all of a full rule's.
func slots() []slot {
	l := []slot{
		{"Home", false, func(r *api.Rule, t api.Term) { r.Home = t }},
		{"To", true, func(r *api.Rule, t api.Term) { r.To = t }},
	}
	for i := range len(full().Args) {
		l = append(l, slot{"Args", false, func(r *api.Rule, t api.Term) { r.Args[i] = t }})
	}
	for k, x := range full().Body {
		l = append(l, slot{"By", true, func(r *api.Rule, t api.Term) { r.Body[k].By = t }})
		l = append(l, slot{"At", true, func(r *api.Rule, t api.Term) { r.Body[k].At = t }})
		for j := range x.Args {
			l = append(l, slot{"a literal's Args", false, func(r *api.Rule, t api.Term) { r.Body[k].Args[j] = t }})
		}
	}
	return l
}

// unshown are rules that show.Rule refuses, each for one reason.
func unshown() (l []api.Rule) {
	with := func(change func(r *api.Rule)) {
		r := full()
		change(&r)
		l = append(l, r)
	}
	for _, s := range slots() {
		for _, t := range badTerms() {
			with(func(r *api.Rule) { s.put(r, t) })
		}
		if !s.mayLack {
			with(func(r *api.Rule) { s.put(r, api.Term{}) })
		}
	}
	for _, s := range badPreds() {
		with(func(r *api.Rule) { r.Pred = s })
		for k := range api.MaxBody {
			with(func(r *api.Rule) { r.Body[k].Pred = s })
		}
	}
	for _, many := range []int{5, 6, 48, 1000} {
		ones := slices.Repeat(terms(number(1)), many)
		with(func(r *api.Rule) { r.Args = ones })
		for k := range api.MaxBody {
			with(func(r *api.Rule) { r.Body[k].Args = ones })
		}
		with(func(r *api.Rule) { r.Body = slices.Repeat(r.Body[3:], many) })
	}
	with(func(r *api.Rule) { r.Args, r.Body = nil, nil })
	with(func(r *api.Rule) { r.Args, r.Body = nil, []api.Literal{} })
	return append(l, api.Rule{})
}

// pick is one of a list, as the die falls.
func pick[T any](die *rand.Rand, l []T) T { return l[die.Intn(len(l))] }

// A maker makes rules at random; one of so many things that it puts into a rule is what may stand there by chance alone (slip 0: none).
type maker struct {
	die  *rand.Rand
	slip int
}

func (m maker) slips() bool { return m.slip > 0 && m.die.Intn(m.slip) == 0 }

// name is a variable or a text where a principal stands, if nothing slips.
func (m maker) name() api.Term {
	if m.slips() {
		return pick(m.die, terms(number(0), number(5), text(`"`), variable("x"), api.Term{}))
	}
	return pick(m.die, terms(variable("A"), variable("B"), variable("C"), text("a"), text("b"), text("A")))
}

func (m maker) argument() api.Term {
	return pick(m.die, terms(variable("A"), variable("B"), variable("X"), variable("Y"), variable("Z"), text("X"), number(1), m.name()))
}

// size is how many arguments a predicate has, if nothing slips.
func (m maker) size(pred string) int {
	if m.slips() {
		return m.die.Intn(api.MaxArgs + 2)
	}
	return strings.Index("pqrst", pred)
}

// of is one of the variables, or a text where there is none, or where the die falls so; any term, if it slips.
func (m maker) of(vars []string) api.Term {
	switch {
	case m.slips():
		return m.argument()
	case len(vars) == 0 || m.die.Intn(4) == 0:
		return text("a")
	}
	return variable(pick(m.die, vars))
}

func (m maker) perhaps(t api.Term) api.Term {
	if m.die.Intn(2) == 0 {
		return api.Term{}
	}
	return t
}

// preds are predicates with 0 to 4 arguments, in this order.
func preds() []string { return []string{"p", "q", "r", "s", "t"} }

func (m maker) rule() api.Rule {
	r := api.Rule{Home: m.name(), Pred: pick(m.die, preds())}
	for k := range 1 + m.die.Intn(api.MaxBody) {
		x := api.Literal{By: m.perhaps(m.name()), Pred: pick(m.die, preds()), At: m.perhaps(m.of(wantBound(r, k)))}
		for range m.size(x.Pred) {
			x.Args = append(x.Args, m.argument())
		}
		r.Body = append(r.Body, x)
	}
	vars := wantVars(r)
	r.To = m.perhaps(m.of(vars))
	for range m.size(r.Pred) {
		r.Args = append(r.Args, m.of(vars))
	}
	return r
}

func (m maker) rules(many int) (l []api.Rule) {
	for range many {
		l = append(l, m.rule())
	}
	return l
}
