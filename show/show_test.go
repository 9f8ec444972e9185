package show_test

import (
	"math"
	"math/rand"
	"slices"
	"strconv"
	"strings"
	"testing"

	"avowal/api"
	"avowal/lex"
	"avowal/parse"
	"avowal/show"
)

func TestExamples(t *testing.T) { // the chapter's
	r := api.Rule{Home: variable("A"), Pred: "p", Args: []api.Term{variable("X"), number(1)}, To: text("b"),
		Body: []api.Literal{{By: variable("X"), Pred: "q", Args: []api.Term{text("x y")}}, {Pred: "r", At: variable("A")}}}
	shownRule(t, r, `A: p(X, 1) to b :- X says q("x y"), r() at A.`)
	shownTerm(t, text("To"), `"To"`)
}

// each tells all bytes, each as a text.
func each() (l []string) {
	for b := range 256 {
		l = append(l, string([]byte{byte(b)}))
	}
	return l
}

const (
	smalls   = "abcdefghijklmnopqrstuvwxyz"
	capitals = "ABCDEFGHIJKLMNOPQRSTUVWXYZ"
	digits   = "0123456789"
	within   = smalls + capitals + digits + "_" // what may stand in a word or a variable behind its first byte
)

// termIf checks that a term is shown as a text just where it may be.
func termIf(t *testing.T, may bool, one api.Term, want string) {
	t.Helper()
	if may {
		shownTerm(t, one, want)
	} else {
		refusedTerm(t, one)
	}
}

func TestVariables(t *testing.T) { // P9.1 and P9.2: each byte at each place, of each length
	for _, b := range each() {
		for n := range api.MaxText + 3 {
			s := b + strings.Repeat("x", n)
			termIf(t, strings.Contains(capitals, b) && len(s) <= 32, variable(s), s)
			for place := range n {
				s := "V" + strings.Repeat("_", place) + b + strings.Repeat("9", n-place-1)
				termIf(t, strings.Contains(within, b) && len(s) <= 32, variable(s), s)
			}
		}
	}
	if api.MaxText != 32 {
		t.Error("MaxText:", api.MaxText)
	}
}

func TestVariablesWithValues(t *testing.T) { // P9.1: Val is zero
	for _, s := range []string{"X", "Var", "says", "x", " ", "V" + strings.Repeat("_", api.MaxText)} {
		for _, c := range []api.Const{{Num: true}, {N: 1}, {N: -1}, {N: math.MinInt}, {S: "a"}, {S: " "}, {S: s}, {Num: true, N: 3}, {Num: true, N: 3, S: "3"}} {
			refusedTerm(t, api.Term{Var: s, Val: c})
		}
	}
}

func TestNumbers(t *testing.T) { // P9.1 and P9.2
	for n, want := range map[int]string{0: "0", 1: "1", -1: "-1", 9: "9", 10: "10", -10: "-10", 100: "100", 1234567890: "1234567890", math.MaxInt: "9223372036854775807", math.MinInt: "-9223372036854775808", math.MinInt + 1: "-9223372036854775807"} {
		shownTerm(t, number(n), want)
		for _, s := range append(each(), want, "a", "x y") {
			refusedTerm(t, api.Term{Val: api.Const{Num: true, N: n, S: s}})
		}
	}
	for n := -1100; n <= 1100; n++ {
		shownTerm(t, number(n), strconv.Itoa(n))
	}
}

// mayStandInText tells whether a byte is one from 32 to 126, but " and \.
func mayStandInText(b string) bool { return b[0] >= 32 && b[0] <= 126 && b[0] != 34 && b[0] != 92 }

func TestTexts(t *testing.T) { // P9.1 and P9.2: each byte at each place, of each length; texts that are no words
	for _, b := range each() {
		if !strings.Contains(smalls, b) {
			termIf(t, mayStandInText(b), text(b), `"`+b+`"`)
		}
		for n := range api.MaxText + 3 {
			for place := range n {
				s := "(" + strings.Repeat("x", place) + b + strings.Repeat(" ", n-place-1)
				termIf(t, mayStandInText(b) && len(s) <= 32, text(s), `"`+s+`"`)
				s = strings.Repeat(" ", place) + b + strings.Repeat("x", n-place-1) + ")"
				termIf(t, mayStandInText(b) && len(s) <= 32, text(s), `"`+s+`"`)
			}
		}
	}
	for _, s := range []string{"", "a", "says", "x y", "1", " "} {
		for _, n := range []int{1, -1, math.MaxInt, math.MinInt} {
			refusedTerm(t, api.Term{Val: api.Const{N: n, S: s}})
		}
	}
	refusedTerm(t, text(""))
	refusedTerm(t, api.Term{})
}

func TestWords(t *testing.T) { // P9.2: a text as it is, just where it is a word that is not kept
	for _, b := range each() {
		for n := range api.MaxText {
			s := b + strings.Repeat("x", n)
			switch {
			case strings.Contains(smalls, b):
				shownTerm(t, text(s), s)
			case mayStandInText(b):
				shownTerm(t, text(s), `"`+s+`"`)
			default:
				refusedTerm(t, text(s))
			}
			for place := range n {
				s := "w" + strings.Repeat("Z", place) + b + strings.Repeat("_", n-place-1)
				switch {
				case strings.Contains(within, b):
					shownTerm(t, text(s), s)
				case mayStandInText(b):
					shownTerm(t, text(s), `"`+s+`"`)
				default:
					refusedTerm(t, text(s))
				}
			}
		}
		refusedTerm(t, text("w"+strings.Repeat("x", api.MaxText-1)+b))
	}
}

func TestWordsAndOthers(t *testing.T) { // P9.2: written out
	for _, s := range []string{"a", "z", "aB", "a_", "a9", "word", "sayss", "says_", "say", "sAys", "too", "tO", "t", "att", "a1", "at0", strings.Repeat("to", api.MaxText/2)} {
		shownTerm(t, text(s), s)
	}
	for _, s := range []string{"says", "to", "at", "Says", "To", "At", "X", "Abc", "1", "12", "-3", "1a", "_", "_a", "a b", " a", "a ", " ", "a-b", "a.", "a,b", "p()", ":-", "(", "%", "a%b", "% to", "'", "~ask0.1", "a~", "says ", " says", "to,"} {
		shownTerm(t, text(s), `"`+s+`"`)
	}
	for _, s := range []string{"says", "to", "at"} { // kept words as variables would be none
		refusedTerm(t, variable(s))
	}
}

func TestBadTerms(t *testing.T) { // P9.1 and P9.2
	for _, one := range badTerms() {
		refusedTerm(t, one)
	}
	for _, one := range goodTerms() {
		s, e := show.Term(one)
		if want, _ := wantTerm(one); e != api.OK || s != want {
			t.Errorf("Term(%+v): %q, %d", one, s, e)
		}
	}
}

// some are so many arguments, and how they are shown.
func some(many int) (l []api.Term, s string) {
	all := []string{`X`, `-2`, `w`, `"to"`, `"x y"`, `7`}
	l = []api.Term{variable("X"), number(-2), text("w"), text("to"), text("x y"), number(7)}
	return l[:many], strings.Join(all[:many], ", ")
}

func TestShapes(t *testing.T) { // P9.2: with and without To, By and At; each number of arguments and of literals, also too great ones
	for shape := range 8 {
		for head := range api.MaxArgs + 3 {
			for body := range api.MaxArgs + 3 {
				r := short()
				one := api.Literal{Pred: "q"}
				var to, says, at, inHead, inBody string
				r.Args, inHead = some(head)
				one.Args, inBody = some(body)
				if shape&1 != 0 {
					r.To, to = text("b"), " to b"
				}
				if shape&2 != 0 {
					one.By, says = variable("C"), "C says "
				}
				if shape&4 != 0 {
					one.At, at = text("D"), ` at "D"`
				}
				s := says + "q(" + inBody + ")" + at
				for many := range api.MaxBody + 3 {
					r.Body = slices.Repeat([]api.Literal{one}, many)
					if many == 0 || many > 4 || head > 4 || body > 4 {
						refusedRule(t, r)
						continue
					}
					shownRule(t, r, "a: p("+inHead+")"+to+" :- "+strings.Repeat(s+", ", many-1)+s+".")
					r.Body[0] = literal("r")
					shownRule(t, r, "a: p("+inHead+")"+to+" :- r()"+strings.Repeat(", "+s, many-1)+".")
				}
			}
		}
	}
}

func TestGreatestRule(t *testing.T) { // P9.2
	shownRule(t, full(), `A: p(X, -7, p, "x y") to b :- B says q(X, -7, q, "x y") at "at", B says q(X, -7, q, "x y") at "at", B says q(X, -7, q, "x y") at "at", B says q(X, -7, q, "x y") at "at".`)
}

func TestWrittenOut(t *testing.T) { // P9.2: texts that are shown as they are
	for _, s := range []string{
		"a: p() :- q().", "A: p(X) :- q(X).", "1: p() :- q().", `"X": p() :- q().`, `"to": p() to "at" :- "says" says q() at "to".`, "a: p() to b :- c says q() at d.", "-1: p() to -2 :- -3 says q(-4) at -5.",
		"A: p(X, 1) to B :- q(X), B says r(1), s() at C, D says t(x, Y, 3, \"4\") at e.", "A: ok(X) :- B says p(X), trusts(B).", "says_: to_() to at_ :- at_ says says_() at to_.",
		`a: p("a b", "(", ")", ",") :- q(".", ":", ":-", "%").`,
	} {
		l, _, e := parse.Program(s)
		if len(l) != 1 || e != api.OK {
			t.Fatalf("%q: %d", s, e)
		}
		shownRule(t, l[0], s)
	}
}

func TestTermsAtEachPlace(t *testing.T) { // P9.1 and P9.2: all others can be shown
	for _, one := range places() {
		for _, term := range goodTerms() {
			r := full()
			one.put(&r, term)
			want, _ := wantRule(r)
			shownRule(t, r, want)
		}
		for _, term := range badTerms() {
			r := full()
			one.put(&r, term)
			refusedRule(t, r)
		}
		r := full()
		one.put(&r, api.Term{})
		if want, _ := wantRule(r); one.mayLack {
			shownRule(t, r, want)
		} else {
			refusedRule(t, r)
		}
	}
}

func TestPredsAtEachPlace(t *testing.T) { // P9.1 and P9.2
	for _, put := range predPlaces() {
		for _, s := range goodPreds() {
			r := full()
			put(&r, s)
			want, _ := wantRule(r)
			shownRule(t, r, want)
		}
		for _, s := range badPreds() {
			r := full()
			put(&r, s)
			refusedRule(t, r)
		}
		for _, b := range each() {
			for _, s := range []string{b, "p" + b, b + "p", "p" + b + "p"} {
				r := full()
				put(&r, s)
				wanted(t, r)
			}
		}
	}
	r := short()
	r.Pred, r.Body[0].Pred = "to1", "at1"
	shownRule(t, r, "a: to1() :- at1().")
}

func TestLists(t *testing.T) { // P9.1: how many there may be; a list that lacks is as an empty one
	r := short()
	r.Args, r.Body[0].Args = []api.Term{}, []api.Term{}
	shownRule(t, r, "a: p() :- q().")
	r.Args, r.Body[0].Args = make([]api.Term, 0, 9), make([]api.Term, 0, 9)
	shownRule(t, r, "a: p() :- q().")
	for _, body := range [][]api.Literal{nil, {}, make([]api.Literal, 0, 3)} {
		r := short()
		r.Body = body
		refusedRule(t, r)
	}
	for _, many := range []int{5, 6, 48, 1000} {
		r := short()
		r.Args = slices.Repeat([]api.Term{number(1)}, many)
		refusedRule(t, r)
		r = short()
		r.Body[0].Args = slices.Repeat([]api.Term{number(1)}, many)
		refusedRule(t, r)
		r = short()
		r.Body = append(r.Body, api.Literal{Pred: "q", Args: slices.Repeat([]api.Term{number(1)}, many)})
		refusedRule(t, r)
		r = short()
		r.Body = slices.Repeat(r.Body, many)
		refusedRule(t, r)
	}
	refusedRule(t, api.Rule{})
	refusedRule(t, api.Rule{Home: text("a"), Pred: "p"})
	refusedRule(t, api.Rule{Home: text("a"), Pred: "p", Body: []api.Literal{{}}})
}

func TestHowManyRules(t *testing.T) { // P9.2
	shown(t, "")
	shown(t, "", []api.Rule{}...)
	for many := range api.MaxRules + 1 {
		shown(t, strings.Repeat("a: p() :- q().\n", many), slices.Repeat([]api.Rule{short()}, many)...)
	}
	for _, many := range []int{17, 18, 100} {
		l := slices.Repeat([]api.Rule{short()}, many)
		refused(t, api.ErrMany, l...)
		for _, i := range []int{0, 15, 16, many - 1} { // ErrMany also where one can't be shown
			m := slices.Clone(l)
			m[i] = api.Rule{}
			refused(t, api.ErrMany, m...)
		}
		refused(t, api.ErrMany, slices.Repeat([]api.Rule{full()}, many)...) // and where the text would be too long
		refused(t, api.ErrMany, make([]api.Rule, many)...)
	}
}

func TestOneOfManyRules(t *testing.T) { // P9.2: ErrShape wherever the one stands
	for many := 1; many <= api.MaxRules; many++ {
		for i := range many {
			l := slices.Repeat([]api.Rule{short()}, many)
			l[i].Pred = "to"
			refused(t, api.ErrShape, l...)
		}
	}
}

// wide is a rule whose text and a byte 10 have just so many bytes.
func wide(t *testing.T, many int) api.Rule {
	r := short()
	r.Body = slices.Repeat([]api.Literal{literal("q")}, api.MaxBody)
	length := func() int {
		s, _ := show.Rule(r)
		return len(s) + 1
	}
	for i := range r.Body {
		for range api.MaxArgs {
			if many-length() >= 40 {
				r.Body[i].Args = append(slices.Clone(r.Body[i].Args), text(strings.Repeat("w", 32)))
			}
		}
	}
	for i := range r.Body {
		r.Body[i].Pred += strings.Repeat("q", min(31, max(0, many-length())))
	}
	if length() != many {
		t.Fatalf("%d bytes, not %d", length(), many)
	}
	return r
}

func TestBig(t *testing.T) { // P9.2: the text's length about the limit
	for n := 4090; n <= 4102; n++ {
		for _, each := range []int{256, 300, 340} {
			var l []api.Rule
			left := n
			for ; left >= 2*each; left -= each {
				l = append(l, wide(t, each))
			}
			if len(l) == api.MaxRules {
				t.Fatal("too many rules for this test")
			}
			l = append(l, wide(t, left))
			if n > 4096 {
				refused(t, api.ErrBig, l...)
				continue
			}
			s, e := show.Program(l...)
			if len(s) != n || e != api.OK {
				t.Errorf("%d bytes: %d, %d", n, len(s), e)
			}
			wanted(t, l...)
		}
	}
	shown(t, strings.Repeat("a: p() :- q().\n", 16), slices.Repeat([]api.Rule{short()}, 16)...)
}

func TestBigOrShape(t *testing.T) { // P9.2: a rule that can't be shown is told ahead of a text that is too long
	l := slices.Repeat([]api.Rule{wide(t, 512)}, api.MaxRules)
	refused(t, api.ErrBig, l...)
	for i := range l {
		m := slices.Clone(l)
		m[i].Pred = "to"
		refused(t, api.ErrShape, m...)
	}
	for _, many := range []int{8, 9} {
		e := api.OK
		if many == 9 {
			e = api.ErrBig
		}
		if s, f := show.Program(l[:many]...); f != e || (s == "") != (e != api.OK) {
			t.Errorf("%d rules: %d bytes, %d", many, len(s), f)
		}
		refused(t, api.ErrShape, append(slices.Clone(l[:many]), api.Rule{})...)
	}
}

func TestManyRules(t *testing.T) { // P9.1 to P9.3: rules that can be shown, and some with a fault
	die := rand.New(rand.NewSource(9))
	for i := range 1000 {
		l := anyRules(die, i%(api.MaxRules+2))
		wanted(t, l...)
		for range min(len(l), 2) {
			r := full()
			pick(die, places()).put(&r, pick(die, append(badTerms(), goodTerms()...)))
			pick(die, predPlaces())(&r, pick(die, append(badPreds(), goodPreds()...)))
			l[die.Intn(len(l))] = r
			wanted(t, l...)
		}
	}
}

// samples are texts of many kinds, most of them programs.
func samples() []string {
	return []string{
		"", " ", "\n%", "% a: p() :- q().", "a:p():-q().", "a:p():-q().a:p():-q().", "a:p():-q(). % more", " \r\n\ta : p ( ) :- q ( ) .\n",
		"A: p(X) :- q(X).", `a: p(1) to B :- B says q("x y") at c.`, `"a": p(1, "X") to "b" :- "B" says q(X) at "c", "d" says r().`,
		`1: p(X,"y",z,-4) to "to" :- 2 says q(1,2,3,4) at 3, "says" says r("at") at "at", s(), t(S) at T.`,
		"% one\nA: t(X, Z) :- t(X, Y), e(Y, Z).\n% two\nA: t(X, Y) :- e(X, Y).\n",
		strings.Repeat("a:p():-q().", api.MaxRules), strings.Repeat("a:p():-q().", api.MaxRules+1),
		"a", "a: p( :-", "says: p() :- q().", "?", `a: p("") :- q().`, `a: p("x`,
		`a:p("` + strings.Repeat("~", api.MaxText) + `","w",W,` + strconv.Itoa(math.MinInt) + `):-"9"says q("p")at"q".`,
	}
}

// again checks P9.3 of a text that was parsed, if it is a program: what it is shown as is parsed as the same rules, and is shown as itself.
func again(t *testing.T, text string) {
	t.Helper()
	l, _, e := parse.Program(text)
	if e != api.OK {
		return
	}
	s, e := show.Program(l...)
	if want, _ := wantProgram(l); s != want || e != api.OK && e != api.ErrBig {
		t.Errorf("Program of %q: %q, %d", text, s, e)
	}
	if e == api.ErrBig {
		return
	}
	parsedAs(t, s, l)
	m, _, _ := parse.Program(s)
	shown(t, s, m...)
}

// sparse is a text with other things between its tokens, and texts between quotes, as the die falls.
func sparse(die *rand.Rand, text string) string {
	l, _, _ := lex.Tokens(text)
	var s strings.Builder
	for i, one := range l {
		behind := i+1 < len(l) && l[i+1].Kind == api.TokSign && l[i+1].Text == "("
		kept := one.Text == "says" || one.Text == "to" || one.Text == "at"
		switch {
		case one.Kind == api.TokNum:
			s.WriteString(strconv.Itoa(one.N))
		case one.Kind == api.TokQuote, one.Kind == api.TokWord && !behind && !kept && die.Intn(2) == 0:
			s.WriteString(`"` + one.Text + `"`)
		default:
			s.WriteString(one.Text)
		}
		s.WriteString(pick(die, []string{" ", "\n", "\t ", "% to\n", " %\n"}))
	}
	return s.String()
}

func TestParsedAgain(t *testing.T) { // P9.3
	die := rand.New(rand.NewSource(93))
	for _, s := range samples() {
		again(t, s)
	}
	many := 0
	for i := range 1000 {
		l := anyRules(die, i%(api.MaxRules+1))
		s, e := show.Program(l...)
		if e != api.OK {
			continue
		}
		again(t, s)
		other := sparse(die, s)
		if len(other) > api.MaxWords {
			continue
		}
		parsedAs(t, other, l)
		again(t, other)
		shown(t, s, l...)
		many++
	}
	if many < 250 {
		t.Error("only so many texts:", many)
	}
}

func TestParsedButTooLong(t *testing.T) { // P9.3: what is a program in few bytes may be too long as it is shown
	atom := strings.Repeat("p", api.MaxText) + "(1,2,3,4)"
	rule := strings.Repeat("a", api.MaxText) + ":" + atom + ":-" + strings.Repeat(atom+",", api.MaxBody-1) + atom + "."
	s := strings.Repeat(rule, api.MaxRules)
	l, _, e := parse.Program(s)
	if len(l) != api.MaxRules || e != api.OK {
		t.Fatal(len(s), len(l), e)
	}
	refused(t, api.ErrBig, l...)
	again(t, s)
	again(t, s[len(rule):])
}

func TestUnlikeTerms(t *testing.T) { // P9.3
	as := map[string]api.Term{}
	var l []api.Term
	for _, a := range each() {
		l = append(l, text(a), variable(a), text(a+"1"), variable(a+"1"))
		for _, b := range each() {
			l = append(l, text("a"+a+b), variable("A"+a+b))
		}
	}
	for n := -200; n < 1200; n++ {
		l = append(l, number(n), text(strconv.Itoa(n)), text("A"+strconv.Itoa(n)))
	}
	for _, one := range append(append(l, goodTerms()...), badTerms()...) {
		s, e := show.Term(one)
		wantedTerm(t, one)
		if e != api.OK {
			continue
		}
		if other, ok := as[s]; ok && other != one {
			t.Errorf("%+v and %+v: %q", other, one, s)
		}
		as[s] = one
	}
	if len(as) < 5000 {
		t.Error("only so many texts:", len(as))
	}
}

// unlike are rules that differ in one thing each, and some that differ in where a thing stands.
func unlike() (l []api.Rule) {
	for _, one := range places() {
		for _, term := range goodTerms() {
			r := full()
			one.put(&r, term)
			l = append(l, r)
		}
		if one.mayLack {
			r := full()
			one.put(&r, api.Term{})
			l = append(l, r)
		}
	}
	for _, put := range predPlaces() {
		for _, s := range goodPreds() {
			r := full()
			put(&r, s)
			l = append(l, r)
		}
	}
	for n := range api.MaxArgs + 1 {
		r := full()
		r.Args = r.Args[:n]
		l = append(l, r)
		for i := range api.MaxBody {
			r := full()
			r.Body[i].Args = r.Body[i].Args[:n]
			l = append(l, r)
			r = full()
			r.Body = r.Body[:i+1]
			l = append(l, r)
		}
	}
	b := text("b")
	for _, one := range []api.Literal{{Pred: "q"}, {Pred: "b"}, {By: b, Pred: "q"}, {Pred: "q", At: b}, {Pred: "q", Args: []api.Term{b}}, {By: b, Pred: "q", At: b}} {
		r := short()
		r.Body = []api.Literal{one}
		l = append(l, r)
		r = copied(r)
		r.To = b
		l = append(l, r)
		r = copied(r)
		r.Body = append(r.Body, literal("q"))
		l = append(l, r)
		r = copied(r)
		r.Body[0], r.Body[1] = r.Body[1], r.Body[0]
		l = append(l, r)
	}
	return l
}

func TestUnlikeRules(t *testing.T) { // P9.3
	as := map[string]api.Rule{}
	for _, r := range unlike() {
		s, e := show.Rule(r)
		if e != api.OK {
			t.Errorf("%+v: %d", r, e)
		}
		if other, ok := as[s]; ok && !sameRule(other, r) {
			t.Errorf("%+v and %+v: %q", other, r, s)
		}
		as[s] = r
		wanted(t, r)
	}
	if len(as) < 1000 {
		t.Error("only so many texts:", len(as))
	}
}

// hard are terms, predicates and rules with whatever may be in their fields.
func hard() (l []api.Rule) {
	huge := strings.Repeat("x", 1<<22)
	l = []api.Rule{{}, {Body: make([]api.Literal, 1<<16)}, {Args: make([]api.Term, 1<<16)}, {Pred: huge}, {Home: variable(huge)}, {Home: text(huge), To: text(huge)}}
	for _, s := range []string{"", huge, strings.Repeat("X", 1<<22), strings.Repeat("\x00", 100), strings.Repeat(`"`, 1<<22), strings.Repeat("%", 1<<22), strings.Repeat(" ", api.MaxWords)} {
		for _, n := range []int{0, 1, math.MinInt, math.MaxInt} {
			for _, num := range []bool{false, true} {
				one := api.Term{Var: s, Val: api.Const{Num: num, N: n, S: s}}
				two := api.Term{Val: one.Val}
				for _, term := range []api.Term{one, two} {
					r := full()
					for _, place := range places() {
						r = copied(r)
						place.put(&r, term)
						l = append(l, r)
					}
				}
			}
		}
		for _, put := range predPlaces() {
			r := full()
			put(&r, s)
			l = append(l, r)
		}
	}
	return l
}

func TestNoPanic(t *testing.T) { // R1
	for _, r := range hard() {
		_, want := wantRule(api.Rule{Home: r.Home, Pred: "p", Body: short().Body})
		if _, e := show.Term(r.Home); e != want {
			t.Errorf("Term of Home of %d bytes: %d, want %d", len(r.Home.Var)+len(r.Home.Val.S), e, want)
		}
		s, e := show.Rule(r)
		if p, f := show.Program(r); f != e || e == api.OK && p != s+"\n" || e != api.OK && s+p != "" {
			t.Errorf("Rule and Program: %d, %d", e, f)
		}
		show.Program(r, r)
	}
}

// roomy is a rule whose lists have spare room with things in it.
func roomy(r api.Rule) api.Rule {
	spare := func(l []api.Term) []api.Term { return append(slices.Clone(l), variable("Spare"), number(5))[:len(l)] }
	r.Args = spare(r.Args)
	r.Body = append(slices.Clone(r.Body), literal("spare"))[:len(r.Body)]
	for i := range r.Body {
		r.Body[i].Args = spare(r.Body[i].Args)
	}
	return r
}

// withRoom is a rule whose lists have what stands in their spare room too.
func withRoom(r api.Rule) api.Rule {
	r.Args = slices.Clone(r.Args[:cap(r.Args)])
	r.Body = slices.Clone(r.Body[:cap(r.Body)])
	for i := range r.Body {
		r.Body[i].Args = slices.Clone(r.Body[i].Args[:cap(r.Body[i].Args)])
	}
	return r
}

func TestNothingChanges(t *testing.T) { // R3 and R4
	bad, many := full(), full()
	bad.Body[3].Args[3] = variable("x")
	many.Args = append(many.Args, number(1))
	for _, one := range []api.Rule{short(), full(), bad, many, {}, unlike()[7]} {
		r := roomy(one)
		before := withRoom(r)
		l := append(make([]api.Rule, 0, 4), r, r, short())
		want, e := show.Rule(r)
		all, f := show.Program(l[:2]...)
		for range 3 {
			if s, g := show.Rule(r); s != want || g != e {
				t.Errorf("%+v: %q, %d, then %q, %d", r, want, e, s, g)
			}
			if s, g := show.Program(l[:2]...); s != all || g != f {
				t.Errorf("%+v: %q, %d, then %q, %d", r, all, f, s, g)
			}
			show.Program(full(), bad)
			show.Term(text("\n"))
		}
		if !sameRule(withRoom(r), before) || !sameRules(l[:3], []api.Rule{one, one, short()}) {
			t.Errorf("%+v became %+v", before, withRoom(r))
		}
	}
}

func FuzzShow(f *testing.F) { // P9.1 to P9.3
	for i, s := range samples() {
		f.Add(s, "X", i, i%2 == 0, "p", i)
	}
	for i, one := range append(badTerms(), goodTerms()...) {
		f.Add(one.Val.S, one.Var, one.Val.N, one.Val.Num, append(badPreds(), goodPreds()...)[i%50], i)
	}
	f.Fuzz(func(t *testing.T, s, v string, n int, num bool, pred string, where int) {
		again(t, s)
		for _, one := range []api.Term{{Var: v, Val: api.Const{Num: num, N: n, S: s}}, {Val: api.Const{Num: num, N: n, S: s}}, variable(v), text(s), number(n)} {
			wantedTerm(t, one)
			r := full()
			places()[int(uint(where)%uint(len(places())))].put(&r, one)
			wanted(t, r)
			predPlaces()[int(uint(where)%uint(len(predPlaces())))](&r, pred)
			wanted(t, r, full())
		}
	})
}
