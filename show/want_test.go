package show_test

import (
	"math"
	"math/rand"
	"regexp"
	"slices"
	"strconv"
	"strings"
	"testing"

	"avowal/api"
	"avowal/parse"
	"avowal/show"
)

func variable(s string) api.Term { return api.Term{Var: s} }

func text(s string) api.Term { return api.Term{Val: api.Const{S: s}} }

func number(n int) api.Term { return api.Term{Val: api.Const{Num: true, N: n}} }

// literal is one that is neither said by somebody else nor elsewhere.
func literal(pred string, args ...api.Term) api.Literal { return api.Literal{Pred: pred, Args: args} }

// short is a rule without anything that may lack.
func short() api.Rule {
	return api.Rule{Home: text("a"), Pred: "p", Body: []api.Literal{literal("q")}}
}

// full is a rule with all that there may be.
func full() api.Rule {
	args := func(pred string) []api.Term { return []api.Term{variable("X"), number(-7), text(pred), text("x y")} }
	r := api.Rule{Home: variable("A"), Pred: "p", Args: args("p"), To: text("b")}
	for range api.MaxBody {
		r.Body = append(r.Body, api.Literal{By: variable("B"), Pred: "q", Args: args("q"), At: text("at")})
	}
	return r
}

func sameLiterals(a, b api.Literal) bool {
	return a.By == b.By && a.Pred == b.Pred && slices.Equal(a.Args, b.Args) && a.At == b.At
}

func sameRule(a, b api.Rule) bool {
	return a.Home == b.Home && a.Pred == b.Pred && slices.Equal(a.Args, b.Args) && a.To == b.To && slices.EqualFunc(a.Body, b.Body, sameLiterals)
}

func sameRules(a, b []api.Rule) bool { return slices.EqualFunc(a, b, sameRule) }

// copied is a rule whose lists are its own.
func copied(r api.Rule) api.Rule {
	r.Args = slices.Clone(r.Args)
	r.Body = slices.Clone(r.Body)
	for i := range r.Body {
		r.Body[i].Args = slices.Clone(r.Body[i].Args)
	}
	return r
}

// What stands from here to wantProgram is P9.1 and P9.2 by their words.

var (
	aVariable = regexp.MustCompile(`^[A-Z][a-zA-Z0-9_]{0,31}$`)
	aText     = regexp.MustCompile(`^[ !#-\[\]-~]{1,32}$`)
	aWord     = regexp.MustCompile(`^[a-z][a-zA-Z0-9_]{0,31}$`)
)

func wantWord(s string) bool { return aWord.MatchString(s) && s != "says" && s != "to" && s != "at" }

func wantTerm(t api.Term) (s string, can bool) {
	switch {
	case t.Var != "":
		return t.Var, t.Val == api.Const{} && aVariable.MatchString(t.Var)
	case t.Val.Num:
		return strconv.Itoa(t.Val.N), t.Val.S == ""
	case wantWord(t.Val.S):
		return t.Val.S, t.Val.N == 0
	}
	return `"` + t.Val.S + `"`, t.Val.N == 0 && aText.MatchString(t.Val.S)
}

func wantAtom(pred string, args []api.Term) (s string, can bool) {
	can = wantWord(pred) && len(args) <= 4
	var all []string
	for _, t := range args {
		one, ok := wantTerm(t)
		all = append(all, one)
		can = can && ok
	}
	return pred + "(" + strings.Join(all, ", ") + ")", can
}

// wantPlace is a term that may be none, and what stands by it.
func wantPlace(ahead string, t api.Term, behind string) (s string, can bool) {
	if t == (api.Term{}) {
		return "", true
	}
	s, can = wantTerm(t)
	return ahead + s + behind, can
}

func wantLiteral(l api.Literal) (s string, can bool) {
	by, ok := wantPlace("", l.By, " says ")
	atom, okAtom := wantAtom(l.Pred, l.Args)
	at, okAt := wantPlace(" at ", l.At, "")
	return by + atom + at, ok && okAtom && okAt
}

func wantRule(r api.Rule) (s string, e api.Errno) {
	home, ok := wantTerm(r.Home)
	head, okHead := wantAtom(r.Pred, r.Args)
	to, okTo := wantPlace(" to ", r.To, "")
	can := ok && okHead && okTo && len(r.Body) >= 1 && len(r.Body) <= 4
	var all []string
	for _, l := range r.Body {
		one, ok := wantLiteral(l)
		all = append(all, one)
		can = can && ok
	}
	if !can {
		return "", api.ErrShape
	}
	return home + ": " + head + to + " :- " + strings.Join(all, ", ") + ".", api.OK
}

func wantProgram(l []api.Rule) (s string, e api.Errno) {
	if len(l) > 16 {
		return "", api.ErrMany
	}
	for _, r := range l {
		one, e := wantRule(r)
		if e != api.OK {
			return "", e
		}
		s += one + "\n"
	}
	if len(s) > 4096 {
		return "", api.ErrBig
	}
	return s, api.OK
}

// shownTerm checks that a term is shown as a text.
func shownTerm(t *testing.T, one api.Term, want string) {
	t.Helper()
	if s, e := show.Term(one); s != want || e != api.OK {
		t.Errorf("Term(%+v): %q, %d, want %q", one, s, e, want)
	}
}

// refusedTerm checks that a term can't be shown.
func refusedTerm(t *testing.T, one api.Term) {
	t.Helper()
	if s, e := show.Term(one); s != "" || e != api.ErrShape {
		t.Errorf("Term(%+v): %q, %d, want ErrShape", one, s, e)
	}
}

// wantedTerm holds Term against P9.1 and P9.2.
func wantedTerm(t *testing.T, one api.Term) {
	t.Helper()
	if want, can := wantTerm(one); can {
		shownTerm(t, one, want)
	} else {
		refusedTerm(t, one)
	}
}

// shownRule checks that a rule is shown as a text, as a program of its own too.
func shownRule(t *testing.T, r api.Rule, want string) {
	t.Helper()
	if s, e := show.Rule(r); s != want || e != api.OK {
		t.Errorf("Rule(%+v): %q, %d, want %q", r, s, e, want)
	}
	if s, e := show.Program(r); s != want+"\n" || e != api.OK {
		t.Errorf("Program(%+v): %q, %d, want %q", r, s, e, want+"\n")
	}
}

// refusedRule checks that a rule can't be shown, by itself and among others.
func refusedRule(t *testing.T, r api.Rule) {
	t.Helper()
	if s, e := show.Rule(r); s != "" || e != api.ErrShape {
		t.Errorf("Rule(%+v): %q, %d, want ErrShape", r, s, e)
	}
	refused(t, api.ErrShape, r)
	refused(t, api.ErrShape, short(), r)
	refused(t, api.ErrShape, r, short())
}

// shown checks that rules are shown as a text.
func shown(t *testing.T, want string, l ...api.Rule) {
	t.Helper()
	if s, e := show.Program(l...); s != want || e != api.OK {
		t.Errorf("Program(%+v): %q, %d, want %q", l, s, e, want)
	}
}

// refused checks that rules have an error, and no text.
func refused(t *testing.T, want api.Errno, l ...api.Rule) {
	t.Helper()
	if s, e := show.Program(l...); s != "" || e != want {
		t.Errorf("Program of %d rules: %q, %d, want %d", len(l), s, e, want)
	}
}

// wanted holds Program, and Rule of each rule, against P9.1 and P9.2, what is shown against P9.3, and the rules against what they were (R3).
func wanted(t *testing.T, l ...api.Rule) {
	t.Helper()
	var before []api.Rule
	for _, r := range l {
		before = append(before, copied(r))
		want, e := wantRule(r)
		if s, f := show.Rule(r); s != want || f != e {
			t.Errorf("Rule(%+v): %q, %d, want %q, %d", r, s, f, want, e)
		}
	}
	want, e := wantProgram(l)
	s, f := show.Program(l...)
	if s != want || f != e {
		t.Errorf("Program(%+v): %q, %d, want %q, %d", l, s, f, want, e)
	}
	if f == api.OK {
		parsedAs(t, s, l)
	}
	if !sameRules(l, before) {
		t.Errorf("%+v became %+v", before, l)
	}
}

// parsedAs checks that a text is parsed as just these rules.
func parsedAs(t *testing.T, s string, l []api.Rule) {
	t.Helper()
	if got, at, e := parse.Program(s); !sameRules(got, l) || at != 0 || e != api.OK {
		t.Errorf("%q is parsed as %+v, %d, %d, want %+v", s, got, at, e, l)
	}
}

// A place is one of a rule's at which a term stands, and how to put another one there.
type place struct {
	name    string
	mayLack bool
	put     func(r *api.Rule, t api.Term)
}

// places are all of a full rule's.
func places() []place {
	l := []place{
		{"Home", false, func(r *api.Rule, t api.Term) { r.Home = t }},
		{"To", true, func(r *api.Rule, t api.Term) { r.To = t }},
	}
	for i := range api.MaxArgs {
		l = append(l, place{"Args", false, func(r *api.Rule, t api.Term) { r.Args[i] = t }})
	}
	for i := range api.MaxBody {
		l = append(l, place{"By", true, func(r *api.Rule, t api.Term) { r.Body[i].By = t }})
		l = append(l, place{"At", true, func(r *api.Rule, t api.Term) { r.Body[i].At = t }})
		for j := range api.MaxArgs {
			l = append(l, place{"a literal's Args", false, func(r *api.Rule, t api.Term) { r.Body[i].Args[j] = t }})
		}
	}
	return l
}

// predPlaces are all of a full rule's at which a predicate stands.
func predPlaces() []func(r *api.Rule, s string) {
	l := []func(r *api.Rule, s string){func(r *api.Rule, s string) { r.Pred = s }}
	for i := range api.MaxBody {
		l = append(l, func(r *api.Rule, s string) { r.Body[i].Pred = s })
	}
	return l
}

// goodTerms can be shown, each as another text.
func goodTerms() []api.Term {
	return []api.Term{
		variable("X"), variable("A"), variable("Z9_a"), variable("Says"), variable("TO"), variable("At"), variable("V" + strings.Repeat("_", api.MaxText-1)),
		text("a"), text("says_"), text("tO"), text("at1"), text("sayss"), text("w" + strings.Repeat("9", api.MaxText-1)),
		text("x y"), text("says"), text("to"), text("at"), text("X"), text("Says"), text("1"), text("-1"), text("0"), text("007"), text("-"), text("_"), text("("), text(")"), text(","), text("."), text(":"), text(":-"), text(" "), text(" a"), text("a "), text("a b"), text("%"), text("a%"), text("a-b"), text("~ask0.1"), text(strings.Repeat("~", api.MaxText)), text(strings.Repeat("X", api.MaxText)),
		number(0), number(1), number(-1), number(42), number(math.MaxInt), number(math.MinInt),
	}
}

// badTerms can't be shown; none of them is none.
func badTerms() []api.Term {
	long := strings.Repeat("x", api.MaxText+1)
	return []api.Term{
		{Var: "X", Val: api.Const{Num: true}}, {Var: "X", Val: api.Const{Num: true, N: 1}}, {Var: "X", Val: api.Const{N: 1}}, {Var: "X", Val: api.Const{N: -1}}, {Var: "X", Val: api.Const{S: "X"}}, {Var: "X", Val: api.Const{S: "a"}},
		{Var: "x", Val: api.Const{Num: true}}, {Var: " ", Val: api.Const{S: "a"}},
		variable("x"), variable("says"), variable("_"), variable("_X"), variable("1"), variable("1X"), variable(" "), variable(" X"), variable("X "), variable("X\n"), variable("X%"), variable("%\nX"), variable("X Y"), variable("X-Y"), variable("X,"), variable(`"X"`), variable("\x00"), variable("X\x00"), variable("É"), variable("XÉ"), variable("X\xff"), variable("-1"),
		variable("X" + long), variable("X" + long[1:]), variable("X" + strings.Repeat(" ", api.MaxText-1)), variable("X" + strings.Repeat(" ", 2*api.MaxWords)), variable(strings.Repeat("X", 2*api.MaxWords)),
		{Val: api.Const{Num: true, S: "1"}}, {Val: api.Const{Num: true, N: 1, S: "1"}}, {Val: api.Const{Num: true, N: 1, S: " "}}, {Val: api.Const{Num: true, S: "a"}},
		{Val: api.Const{N: 1}}, {Val: api.Const{N: -1}}, {Val: api.Const{N: math.MaxInt}}, {Val: api.Const{N: math.MinInt}}, {Val: api.Const{N: 1, S: "a"}}, {Val: api.Const{N: 1, S: "1"}}, {Val: api.Const{N: -1, S: "x y"}},
		text(long), text(long + long), text(strings.Repeat(" ", api.MaxText+1)), text(strings.Repeat("X", api.MaxText+1)), text(strings.Repeat("x", 2*api.MaxWords)),
		text("\n"), text("\t"), text("\r"), text("\x00"), text("\x1f"), text("\x7f"), text("\x80"), text("\xff"), text("é"), text("a\n"), text("a\tb"), text("\na"), text("x\x7fy"),
		text(`"`), text(`\`), text(`""`), text(`"a"`), text(`a"`), text(`"a`), text(`x" "y`), text(`x" %`), text(`x\`), text(`\n`), text(`a" %` + "\n"),
	}
}

// goodPreds are words that are not kept.
func goodPreds() []string {
	return []string{"p", "q", "z", "saysp", "says_", "tO", "top", "at_", "att", "r2D2", "p_", "aZ09_", "p" + strings.Repeat("P", api.MaxText-1)}
}

// badPreds are none.
func badPreds() []string {
	return []string{
		"", "says", "to", "at", "P", "Says", "X", "_", "_p", "1", "1p", "-1", "~ask0.1", "~", "p.q", "p-q", "p q", " p", "p ", "p\n", "\tp", "p%", "%\np", "%p", "p(", "p()", `"p"`, `"`, `\`, ":-", ".", "\x00", "p\x00", "\xff", "p\xff", "é", "pé",
		"p" + strings.Repeat("P", api.MaxText), strings.Repeat("p", api.MaxText+1), strings.Repeat("p", 2*api.MaxWords), "p" + strings.Repeat(" ", 2*api.MaxWords), strings.Repeat(" ", 5) + "p",
	}
}

// pick is one of a list, as the die falls.
func pick[T any](die *rand.Rand, l []T) T { return l[die.Intn(len(l))] }

func anyTerms(die *rand.Rand) (l []api.Term) {
	for range die.Intn(api.MaxArgs + 1) {
		l = append(l, pick(die, goodTerms()))
	}
	return l
}

// perhaps is a term or none.
func perhaps(die *rand.Rand) api.Term {
	if die.Intn(2) == 0 {
		return api.Term{}
	}
	return pick(die, goodTerms())
}

// anyRule is one that can be shown.
func anyRule(die *rand.Rand) api.Rule {
	r := api.Rule{Home: pick(die, goodTerms()), Pred: pick(die, goodPreds()), Args: anyTerms(die), To: perhaps(die)}
	for range 1 + die.Intn(api.MaxBody) {
		r.Body = append(r.Body, api.Literal{By: perhaps(die), Pred: pick(die, goodPreds()), Args: anyTerms(die), At: perhaps(die)})
	}
	return r
}

func anyRules(die *rand.Rand, many int) (l []api.Rule) {
	for range many {
		l = append(l, anyRule(die))
	}
	return l
}
