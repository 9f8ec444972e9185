package parse_test

import (
	"math"
	"math/rand"
	"slices"
	"strconv"
	"strings"
	"testing"

	"avowal/api"
	"avowal/lex"
	"avowal/parse"
)

// short is a rule without anything that may lack.
const short = "a:p():-q()."

var shortRule = api.Rule{Home: text("a"), Pred: "p", Body: []api.Literal{literal("q")}}

// kinds tells tokens of all kinds, by their letters.
func kinds() map[string][]string {
	return map[string][]string{
		"V": {"X", "Says", "To"}, "W": {"w", "sayss", "too"}, "N": {"0", "-7"}, "Q": {`"x y"`, `"says"`, `"to"`, `"at"`, `"("`, `")"`, `","`, `"."`, `":"`, `":-"`}, "E": {`""`},
		"s": {"says"}, "t": {"to"}, "a": {"at"}, "(": {"("}, ")": {")"}, ",": {","}, ".": {"."}, ":": {":"}, "=": {":-"},
	}
}

// samples are texts of many kinds, most of them programs.
func samples() []string {
	return []string{
		"", " ", "\n%", "% a: p() :- q().", short, short + short, short + " % more", " \r\n\t" + short + "\n",
		"A: p(X) :- q(X).", `a: p(1) to B :- B says q("x y") at c.`, "a: p(1, X) to B :- B says q(X) at c, r().",
		`1: p(X,"y",z,-4) to "to" :- 2 says q(1,2,3,4) at 3, "says" says r("at") at "at", s(), t(S) at T.`,
		"% one\nA: t(X, Z) :- t(X, Y), e(Y, Z).\n% two\nA: t(X, Y) :- e(X, Y).\n",
		strings.Repeat(short, api.MaxRules-1), strings.Repeat(short, api.MaxRules), strings.Repeat(short, api.MaxRules) + "%", strings.Repeat(short, api.MaxRules+1), strings.Repeat(short, api.MaxRules) + "(",
		"a", "a:", "a: p( :-", "says: p() :- q().", "a: p() :- q()", "a: p().", "a: p() :- .", "a p() :- q().", ".", ":-", "a: p() to :- q().", "a: p() :- q() at.", "a: p() :- X q().",
		"a: p(1,2,3,4,5) :- q().", "a: p() :- q(1,2,3,4,5).", "a: p() :- q(),q(),q(),q(),q().", "a: p() :- q(),q(),q(),q(),", "a: p(1,2,3,4,",
		"?", short + " ?", "a: p( :- ?", "a: p( :- " + strings.Repeat("x", api.MaxText+1), short + ` "`, "007: p() :- q().",
	}
}

func TestExamples(t *testing.T) { // the chapter's
	told(t, "A: p(X) :- q(X).", api.Rule{Home: variable("A"), Pred: "p", Args: []api.Term{variable("X")}, Body: []api.Literal{literal("q", variable("X"))}})
	told(t, `a: p(1) to B :- B says q("x y") at c.`, api.Rule{Home: text("a"), Pred: "p", Args: []api.Term{number(1)}, To: variable("B"),
		Body: []api.Literal{{By: variable("B"), Pred: "q", Args: []api.Term{text("x y")}, At: text("c")}}})
	refused(t, "a: p( :-", 6, api.ErrParse)
	refused(t, "says: p() :- q().", 0, api.ErrParse)
}

func TestWhole(t *testing.T) { // P8.1 and P8.2: several rules, with all that may stand in one
	told(t, "% who may\r\nA: p(X1, -20) to b :-\n\tX1 says q_9(\"x %y\") at A, r(), 7 says s(X1), t(u, V, 3, \"W\") at \"v\". %end\n2:p():-q().",
		api.Rule{Home: variable("A"), Pred: "p", Args: []api.Term{variable("X1"), number(-20)}, To: text("b"), Body: []api.Literal{
			{By: variable("X1"), Pred: "q_9", Args: []api.Term{text("x %y")}, At: variable("A")},
			literal("r"),
			{By: number(7), Pred: "s", Args: []api.Term{variable("X1")}},
			{Pred: "t", Args: []api.Term{text("u"), variable("V"), number(3), text("W")}, At: text("v")},
		}},
		api.Rule{Home: number(2), Pred: "p", Body: []api.Literal{literal("q")}})
}

func TestNoRules(t *testing.T) { // P8.1
	for _, s := range append(between(), "", "%", "% a: p() :- q().", "%\n%", " \n%\" ?", strings.Repeat(" ", api.MaxWords), strings.Repeat("%", api.MaxWords)) {
		told(t, s)
	}
}

// spellings are how a term may stand in a text.
func spellings(one api.Term) []string {
	switch {
	case one.Var != "":
		return []string{one.Var}
	case one.Val.Num:
		return []string{strconv.Itoa(one.Val.N)}
	}
	l := []string{`"` + one.Val.S + `"`}
	if tokens, _, e := lex.Tokens(one.Val.S); e == api.OK && letters(tokens) == "W" && one.Val.S == tokens[0].Text {
		l = append(l, one.Val.S)
	}
	return l
}

func TestTermsAtEachPlace(t *testing.T) { // P8.1 and P8.2
	words := 0
	for _, one := range terms() {
		for i, s := range spellings(one) {
			words += i
			r := shortRule
			r.Home = one
			told(t, s+": p() :- q().", r)
			r = shortRule
			r.Args = []api.Term{one}
			told(t, "a: p("+s+") :- q().", r)
			r.Args = []api.Term{variable("X"), one, number(1)}
			told(t, "a: p(X, "+s+", 1) :- q().", r)
			r = shortRule
			r.To = one
			told(t, "a: p() to "+s+" :- q().", r)
			r = shortRule
			r.Body = []api.Literal{{By: one, Pred: "q"}}
			told(t, "a: p() :- "+s+" says q().", r)
			r.Body = []api.Literal{literal("r"), {By: one, Pred: "q"}}
			told(t, "a: p() :- r(), "+s+" says q().", r)
			r.Body = []api.Literal{{Pred: "q", At: one}}
			told(t, "a: p() :- q() at "+s+".", r)
			r.Body = []api.Literal{{Pred: "q", At: one}, literal("r")}
			told(t, "a: p() :- q() at "+s+", r().", r)
			r.Body = []api.Literal{literal("q", one, one)}
			told(t, "a: p() :- q("+s+", "+s+").", r)
		}
	}
	if words != 6 {
		t.Error("texts that stand as words too:", words)
	}
	told(t, "a: p("+strconv.Itoa(math.MinInt)+","+strconv.Itoa(math.MaxInt)+") :- q().",
		api.Rule{Home: text("a"), Pred: "p", Args: []api.Term{number(math.MinInt), number(math.MaxInt)}, Body: []api.Literal{literal("q")}})
}

// some are so many arguments, and how they stand in a text.
func some(many int) (l []api.Term, s string) {
	var all []string
	for i := range many {
		l = append(l, number(i))
		all = append(all, strconv.Itoa(i))
	}
	return l, strings.Join(all, ", ")
}

func TestShapes(t *testing.T) { // P8.1 and P8.2: with and without to, says and at; each number of arguments
	b, c, d := text("b"), variable("C"), text("d")
	for shape := range 8 {
		for head := range api.MaxArgs + 1 {
			for body := range api.MaxArgs + 1 {
				r := shortRule
				one := api.Literal{Pred: "q"}
				var to, says, at, inHead, inBody string
				r.Args, inHead = some(head)
				one.Args, inBody = some(body)
				if shape&1 != 0 {
					r.To, to = b, " to b"
				}
				if shape&2 != 0 {
					one.By, says = c, "C says "
				}
				if shape&4 != 0 {
					one.At, at = d, " at d"
				}
				s := says + "q(" + inBody + ")" + at
				for many := 1; many <= api.MaxBody; many++ {
					r.Body = slices.Repeat([]api.Literal{one}, many)
					told(t, "a: p("+inHead+")"+to+" :- "+strings.Repeat(s+", ", many-1)+s+".", r)
					r.Body = append([]api.Literal{literal("r")}, r.Body[1:]...)
					told(t, "a: p("+inHead+")"+to+" :- r()"+strings.Repeat(", "+s, many-1)+".", r)
				}
			}
		}
	}
}

func TestHowManyRules(t *testing.T) { // P8.1 and P8.3
	for many := range api.MaxRules + 1 {
		want := slices.Repeat([]api.Rule{shortRule}, many)
		for _, tail := range []string{"", " ", "\n", "%", "% " + short, " %\n%\n "} {
			told(t, strings.Repeat(short, many)+tail, want...)
			told(t, strings.Repeat(short+"\n", many)+tail, want...)
		}
	}
}

func TestGreatest(t *testing.T) { // P8.1: as many of all as may be
	args, s := some(api.MaxArgs)
	one := api.Literal{By: variable("B"), Pred: "q", Args: args, At: variable("C")}
	r := api.Rule{Home: variable("A"), Pred: "p", Args: args, To: text("b"), Body: slices.Repeat([]api.Literal{one}, api.MaxBody)}
	body := strings.Repeat("B says q("+s+") at C, ", api.MaxBody)
	rule := "A: p(" + s + ") to b :- " + strings.TrimSuffix(body, ", ") + "."
	all := strings.Repeat(rule, api.MaxRules)
	want := slices.Repeat([]api.Rule{r}, api.MaxRules)
	told(t, all, want...)
	told(t, all+strings.Repeat(" ", api.MaxWords-len(all)), want...)
	refused(t, all+strings.Repeat(" ", api.MaxWords-len(all)+1), 0, api.ErrBig)
	refused(t, all+rule, len(all), api.ErrMany)
}

// A step is a token of one rule, and the kinds that may stand in its place.
type step struct{ token, may string }

// steps are rules of which each place stands for all places like it, written out by the form.
func steps() [][]step {
	return [][]step{
		{
			{"A", "VWNQ"}, {":", ":"}, {"p", "W"}, {"(", "("}, {"X", "VWNQ)"}, {",", ",)"}, {"1", "VWNQ"}, {")", ",)"}, {"to", "t="}, {"b", "VWNQ"}, {":-", "="},
			{"B", "VWNQ"}, {"says", "s"}, {"q", "W"}, {"(", "("}, {`"x"`, "VWNQ)"}, {")", ",)"}, {"at", "a,."}, {"c", "VWNQ"}, {",", ",."},
			{"r", "VWNQ"}, {"(", "(s"}, {")", "VWNQ)"}, {",", "a,."},
			{"b", "VWNQ"}, {"says", "(s"}, {"s", "W"}, {"(", "("}, {")", "VWNQ)"}, {"at", "a,."}, {"7", "VWNQ"}, {".", ",."},
			{"a", "VWNQ"}, {":", ":"},
		},
		{
			{"a", "VWNQ"}, {":", ":"}, {"p", "W"}, {"(", "("}, {")", "VWNQ)"}, {":-", "t="},
			{`"b"`, "VWNQ"}, {"says", "s"}, {"q", "W"}, {"(", "("}, {")", "VWNQ)"}, {",", "a,."},
			{"5", "VWNQ"}, {"says", "s"}, {"q", "W"}, {"(", "("}, {"5", "VWNQ)"}, {",", ",)"}, {"b", "VWNQ"}, {",", ",)"}, {"C", "VWNQ"}, {")", ",)"}, {".", "a,."},
			{"5", "VWNQ"}, {":", ":"}, {"p", "W"}, {"(", "("}, {")", "VWNQ)"},
		},
	}
}

func TestEachTokenAtEachPlace(t *testing.T) { // P8.1 and P8.3
	for _, l := range steps() {
		front := ""
		for _, one := range l {
			for kind, all := range kinds() {
				for _, s := range all {
					if strings.Contains(one.may, kind) {
						passed(t, front, s)
						continue
					}
					for _, tail := range []string{"", " ", "%", " " + one.token, " :- q().", "\n" + short} {
						refused(t, front+s+tail, len(front), api.ErrParse)
					}
					refused(t, "%\n "+front+"\t"+s, len(front)+4, api.ErrParse)
				}
			}
			front += one.token + " "
		}
	}
}

// passed checks that a text goes on with a token: its error, if it has one, stands behind that.
func passed(t *testing.T, front, s string) {
	t.Helper()
	if l, at, e := parse.Program(front + s + " "); e != api.OK && (len(l) > 0 || at != len(front+s)+1 || e != api.ErrParse) {
		t.Errorf("%q behind %q: %v, %d, %d", s, front, l, at, e)
	}
}

func TestCutOff(t *testing.T) { // P8.3: the text's length, or fewer rules
	for _, l := range steps() {
		front := ""
		var rules []api.Rule
		ended := true
		for _, one := range l {
			for _, tail := range []string{"", " ", "%", "\n\n", "% " + one.token} {
				if ended {
					told(t, front+tail, rules...)
				} else {
					refused(t, front+tail, len(front+tail), api.ErrParse)
				}
			}
			front += one.token + " "
			if ended = one.token == "."; ended {
				rules, _, _ = parse.Program(front)
				if len(rules) != 1 {
					t.Errorf("%q: %d rules", front, len(rules))
				}
			}
		}
	}
}

func TestKeptWords(t *testing.T) { // P8.1 and P8.3: at each place where a word may stand
	for _, place := range []struct{ front, behind string }{
		{"", ": p() :- q()."}, {"a: ", "() :- q()."}, {"a: p(", ") :- q()."}, {"a: p(X, ", ", 1) :- q()."}, {"a: p(1,2,3,", ") :- q()."}, {"a: p() to ", " :- q()."},
		{"a: p() :- ", " says q()."}, {"a: p() :- ", "()."}, {"a: p() :- ", "(X) at b."}, {"a: p() :- X says ", "()."}, {"a: p() :- q(", ")."}, {"a: p() :- q(1, ", ")."}, {"a: p() :- q() at ", "."},
		{"a: p() :- r(), ", " says q()."}, {"a: p() :- r(), ", "()."}, {"a: p() :- r() at b, X says ", "()."}, {"a: p() :- r(), q() at ", "."}, {short + "\n", ": p() :- q()."},
	} {
		for _, s := range []string{"says", "to", "at"} {
			refused(t, place.front+s+place.behind, len(place.front), api.ErrParse)
			refused(t, place.front+s, len(place.front), api.ErrParse)
			for _, other := range []string{s + "_", s + "1", s + s, "a" + s, s[:1] + strings.ToUpper(s[1:]), s[:1]} { // others, which are not kept
				if _, at, e := parse.Program(place.front + other + place.behind); at != 0 || e != api.OK {
					t.Errorf("%q in its place: %d, %d", place.front+other+place.behind, at, e)
				}
			}
		}
	}
	refused(t, "a: p() :- says says says().", 10, api.ErrParse)
	refused(t, "a: p() :- b says says().", 17, api.ErrParse)
	refused(t, "a: p() :- b says says q().", 17, api.ErrParse)
	refused(t, "a: p() to to :- q().", 10, api.ErrParse)
	refused(t, "a: p() :- q() at at.", 17, api.ErrParse)
	refused(t, "a: p() at b :- q().", 7, api.ErrParse)
	refused(t, "a: p() :- q() to b.", 14, api.ErrParse)
	refused(t, "a: b says p() :- q().", 5, api.ErrParse)
	refused(t, "a: p() to b to c :- q().", 12, api.ErrParse)
	refused(t, "a: p() :- q() at b at c.", 19, api.ErrParse)
	refused(t, "a: p() :- q() at b says r().", 19, api.ErrParse)
	refused(t, "a: p() :- b says c says q().", 19, api.ErrParse)
}

func TestEmptyQuotations(t *testing.T) { // P8.1 and P8.3
	for _, place := range []struct{ front, behind string }{
		{"", ": p() :- q()."}, {"a: p(", ") :- q()."}, {"a: p(1,", ") :- q()."}, {"a: p() to ", " :- q()."}, {"a: p() :- ", " says q()."}, {"a: p() :- q(", ")."}, {"a: p() :- q() at ", "."}, {"a: p() :- q(), ", " says q()."},
	} {
		refused(t, place.front+`""`+place.behind, len(place.front), api.ErrParse)
		refused(t, place.front+`""`, len(place.front), api.ErrParse)
		if _, at, e := parse.Program(place.front + `" "` + place.behind); at != 0 || e != api.OK {
			t.Errorf("a blank in the place of %q: %d, %d", place.front, at, e)
		}
	}
}

func TestNoPred(t *testing.T) { // P8.3: a variable, a number, a quotation in the place of an atom's word
	for _, s := range []string{"X", "1", "-1", `"p"`, `""`, "(", "says"} {
		refused(t, "a: "+s+"() :- q().", 3, api.ErrParse)
		refused(t, "a: p() :- b says "+s+"().", 17, api.ErrParse)
	}
	for _, s := range []string{"X", "1", "-1", `"p"`} { // of a literal's first token this is told by the next one: somebody may say it
		refused(t, "a: p() :- "+s+"().", 10+len(s), api.ErrParse)
		refused(t, "a: p() :- q(), "+s+"().", 15+len(s), api.ErrParse)
	}
}

func TestBehindTheLastRule(t *testing.T) { // P8.3
	for _, front := range []string{short, short + short, strings.Repeat(short, api.MaxRules)} {
		for _, s := range []string{".", ",", "(", ")", ":", ":-", "says", "to", "at", `""`, "says: p() :- q().", ". " + short} {
			refused(t, front+s, len(front), api.ErrParse)
			refused(t, front+" %.\n"+s, len(front)+4, api.ErrParse)
		}
	}
	refused(t, short+"b", len(short)+1, api.ErrParse)
	refused(t, short+"b ", len(short)+2, api.ErrParse)
	refused(t, short+"b c", len(short)+2, api.ErrParse)
	refused(t, short+"X.", len(short)+1, api.ErrParse)
}

// begun are tokens of which each may begin an argument, a literal and a rule.
func begun() []string { return []string{"5", "-5", "X", "x", `"x"`, `"says"`} }

// unbegun are tokens of which none may.
func unbegun() []string {
	return []string{")", "(", ",", ".", ":", ":-", "says", "to", "at", `""`}
}

// full are texts behind which an argument, a literal or a rule would be one too many.
func full() []string {
	body := "q(), r() at b, c says s(), t(1,2,3,4),"
	return []string{
		"a: p(1,2,3,4,", "a: p(X, \"y\", z, -4,", "a: p() :- q(1,2,3,4,", "a: p() :- b says q(1,2,3,4,", "a: p() :- q(), q(1,2,3,4,", "a: p() to b :- q(1,2,3,4), q(), q(), q(X,Y,Z,A,", short + "a: p(1,2,3,4,",
		"a: p() :- " + body, "a: p(1,2,3,4) to b :- " + body, short + "a: p() :- q(),q(),q(),q(),", "a: p() :- X says q(),X says q(),X says q(),X says q(),",
		strings.Repeat(short, api.MaxRules), strings.Repeat("a: p(1,2,3,4) :- q(),q(),q(),q().", api.MaxRules), strings.Repeat(short+"%\n", api.MaxRules),
	}
}

func TestMany(t *testing.T) { // P8.3: the place of the first token that is more than may be
	for _, front := range full() {
		for _, gap := range []string{"", " ", "\n%,\n"} {
			place := len(front + gap)
			for _, s := range begun() {
				for _, tail := range []string{"", " ", "(", ",", ")", "()", " says q().", ": p() :- q().", "\n" + short, " : : :", ", 6, 7, 8) :- q()."} { // an ErrParse behind it is not looked at
					refused(t, front+gap+s+tail, place, api.ErrMany)
				}
			}
			for _, s := range unbegun() { // what may not stand there is no argument, no literal and no rule
				refused(t, front+gap+s, place, api.ErrParse)
				refused(t, front+gap+s+" 5", place, api.ErrParse)
			}
			if strings.HasSuffix(front, ",") {
				refused(t, front+gap, place, api.ErrParse)
			} else if l, at, e := parse.Program(front + gap); len(l) != api.MaxRules || at != 0 || e != api.OK {
				t.Errorf("%q: %d rules, %d, %d", front+gap, len(l), at, e)
			}
		}
	}
	_, s := some(api.MaxArgs + 1)
	refused(t, "a: p("+s+") :- q().", 17, api.ErrMany)
	refused(t, "a: p() :- q("+s+").", 24, api.ErrMany)
	refused(t, "a: p() :- q(), q(), q(), q("+s+").", 39, api.ErrMany)
	refused(t, "a: p() :- q(), q(), q(), q(), b says q().", 30, api.ErrMany)
	refused(t, "a: p(1,2,3,4 5) :- q().", 13, api.ErrParse)
	refused(t, "a: p() :- q(),q(),q(),q() q().", 26, api.ErrParse)
}

func TestManyAndWrong(t *testing.T) { // P8.3: the first from the left on
	for _, front := range full() {
		refused(t, ". "+front+"5", 0, api.ErrParse)
		refused(t, "a: p( :- q(). "+front+"5", 6, api.ErrParse)
		refused(t, "to: p() :- q(). "+front+"5", 0, api.ErrParse)
		for _, other := range full() { // of two that are too many too
			refused(t, front+"5 "+other+"5", len(front), api.ErrMany)
		}
	}
	for text, place := range map[string]int{ // a wrong one in the midst of them
		"a: p(1,2 3,4,5) :- q().": 9, "a: p(1,,3,4,5) :- q().": 7, "a: p(1,2,3,to,5) :- q().": 11, "a: p(1,2,3,4,,5) :- q().": 13, "a p(1,2,3,4,5) :- q().": 2, "a: p(1,2,3,\"\",5) :- q().": 11,
		"a: p() :- q(1,2 3,4,5).": 16, "a: p() :- q(1,2,3,(,5).": 18, "a: p() :- Q(1,2,3,4,5).": 11,
		"a: p() :- q(),q() q(),q(),q().": 18, "a: p() :- q(),q(),,q(),q(),q().": 18, "a: p() :- q(),q(),q(),at(),q().": 22, "a: p() :- q(),q(),q(),q(,),q().": 24,
		strings.Repeat(short, api.MaxRules-1) + "a: p() :- q() " + short: (api.MaxRules-1)*len(short) + 14,
	} {
		refused(t, text, place, api.ErrParse)
	}
	refused(t, "a: p(1,2,3,4,5) :- q(1,2,3,4,5).", 13, api.ErrMany)
	refused(t, "a: p() :- q(1,2,3,4,5),q(),q(),q(),q().", 20, api.ErrMany)
	refused(t, "a: p() :- q(),q(),q(),q(),q(1,2,3,4,5).", 26, api.ErrMany)
	refused(t, strings.Repeat(short, api.MaxRules)+"a: p(1,2,3,4,5) :- q().", api.MaxRules*len(short), api.ErrMany)
	refused(t, strings.Repeat(short, api.MaxRules-1)+"a: p(1,2,3,4,5) :- q().", (api.MaxRules-1)*len(short)+13, api.ErrMany)
}

func TestTokensThatCannotBe(t *testing.T) { // P8.3: lex's errors ahead of all
	long := strings.Repeat("x", api.MaxText+1)
	fronts := append(full(), "", " ", "%\n", short, "a: ", "a: p(", ". ", ": ", "a: p( :- ", "says ", "a: p() :- ", strings.Repeat(short, api.MaxRules)+"a ", "a: p(1,2,3,4,5) :- q(). ", "a: p() :- q(),q(),q(),q(),q(). ", short+`""`)
	for _, front := range fronts {
		for _, s := range []string{"?", "- ", "-", "007", "-0", "9223372036854775808", "\"", "\"x\n\"", "\x00", "\xff", "_", "é", `"` + long} {
			refused(t, front+s, len(front), api.ErrToken)
			refused(t, front+s+" ? "+long, len(front), api.ErrToken)
		}
		for _, s := range []string{long, "X" + long, `"` + long + `"`} {
			refused(t, front+" "+s, len(front)+1, api.ErrLong)
			refused(t, front+" "+s+" ?", len(front)+1, api.ErrLong)
			refused(t, front+" "+s+" . : :-", len(front)+1, api.ErrLong)
		}
		refused(t, front+strings.Repeat(" ", api.MaxWords-len(front)+1), 0, api.ErrBig)
		refused(t, front+"?"+long+strings.Repeat(" ", api.MaxWords), 0, api.ErrBig)
		asWanted(t, front+strings.Repeat(" ", api.MaxWords-len(front)))
	}
	refused(t, strings.Repeat("(", api.MaxWords), 0, api.ErrParse)
	refused(t, strings.Repeat("(", api.MaxWords+1), 0, api.ErrBig)
	refused(t, strings.Repeat(short, 1<<16), 0, api.ErrBig)
	refused(t, "a"+strings.Repeat(" ", api.MaxWords-1), api.MaxWords, api.ErrParse)
	told(t, strings.Repeat(" ", api.MaxWords-len(short))+short, shortRule)
}

func TestEveryFewTokens(t *testing.T) { // P8.1 to P8.3, behind some beginnings
	var alphabet []string
	for _, l := range kinds() {
		alphabet = append(alphabet, l[0])
	}
	slices.Sort(alphabet)
	for front, most := range map[string]int{"": 4, short: 2, "a: p(": 3, "a: p()": 3, "a: p() :- ": 3, "a: p() :- q()": 3, "a: p() :- b ": 3, "a: p() :- q(),q(),q(),q() ": 3, "a: p(1,2,3,4": 3, strings.Repeat(short, api.MaxRules): 2} {
		var grow func(s string, left int)
		grow = func(s string, left int) {
			asWanted(t, s)
			for _, one := range alphabet {
				if left > 0 {
					grow(s+one+" ", left-1)
				}
			}
		}
		grow(front, most)
	}
}

func TestOneTokenOther(t *testing.T) { // P8.1 to P8.3: of each sample a token less, a token more, another one; cut off
	for _, s := range samples() {
		l, _, e := lex.Tokens(s)
		asWanted(t, s)
		if e != api.OK {
			continue
		}
		var all []string
		for _, one := range l {
			all = append(all, spelt(one))
		}
		for i := max(0, len(all)-50); i <= len(all); i++ { // of long ones those about the end
			front, behind := strings.Join(all[:i], " ")+" ", ""
			rest := strings.Join(all[i:], " ")
			if i < len(all) {
				behind = " " + strings.Join(all[i+1:], " ")
			}
			asWanted(t, front)
			asWanted(t, front+behind)
			for _, others := range kinds() {
				asWanted(t, front+others[0]+behind)
				asWanted(t, front+others[0]+" "+rest)
			}
		}
	}
}

func TestWritten(t *testing.T) { // P8.1, P8.2 and P8.4: rules as texts in many ways
	die := rand.New(rand.NewSource(8))
	for i := range 1000 {
		l := anyRules(die, i%(api.MaxRules+1))
		if s := written(die, l); len(s) <= api.MaxWords {
			told(t, s, l...)
		} else {
			refused(t, s, 0, api.ErrBig)
		}
	}
}

// joined checks P8.4 of two texts with a byte 10 between them, and that of their errors the first is told.
func joined(t *testing.T, a, b string) {
	t.Helper()
	both := a + "\n" + b
	asWanted(t, both)
	one, _, e := parse.Program(a)
	two, _, f := parse.Program(b)
	switch {
	case e != api.OK || f != api.OK:
	case len(both) > api.MaxWords:
		refused(t, both, 0, api.ErrBig)
	case len(one)+len(two) <= api.MaxRules:
		told(t, both, append(one, two...)...)
	default:
		if l, _, e := parse.Program(both); len(l) > 0 || e != api.ErrMany {
			t.Errorf("Program(%q): %v, %d: too many", both, l, e)
		}
	}
}

func TestJoined(t *testing.T) { // P8.4
	die := rand.New(rand.NewSource(84))
	texts := samples()
	for many := range 10 {
		texts = append(texts, written(die, anyRules(die, many)))
	}
	for _, a := range texts {
		for _, b := range texts {
			joined(t, a, b)
		}
	}
}

func TestBetweenTokens(t *testing.T) { // P8.4
	die := rand.New(rand.NewSource(48))
	for _, s := range append(samples(), written(die, anyRules(die, 5))) {
		tokens, _, e := lex.Tokens(s)
		if e != api.OK {
			continue
		}
		l, _, e := parse.Program(s)
		for _, gap := range between() {
			more := gap
			for _, one := range tokens {
				more += spelt(one) + gap
			}
			if len(more) > api.MaxWords {
				continue
			}
			if m, _, f := parse.Program(more); !sameRules(m, l) || f != e {
				t.Errorf("Program(%q): %v, %d, want %v, %d", more, m, f, l, e)
			}
		}
	}
}

func TestEveryByte(t *testing.T) { // R1, and P8.3: any byte in the place of each, and between any two
	s := `A: p(X, -1) to b :- B says q("x") at c. %`
	for i := range len(s) {
		for b := range 256 {
			c := string([]byte{byte(b)})
			asWanted(t, s[:i]+c+s[i+1:])
			asWanted(t, s[:i]+c+s[i:])
		}
	}
	for i := range 1 << 16 {
		asWanted(t, string([]byte{byte(i >> 8), byte(i)}))
	}
}

func TestAnyBytes(t *testing.T) { // R1
	die := rand.New(rand.NewSource(1))
	parts := strings.Fields(`a X p ( ) , . : :- says to at 1 -1 "" "x" a: p() :- q() q(X), p(1,2,3,4) ? \ "`)
	for range 20000 {
		bytes := make([]byte, die.Intn(40))
		die.Read(bytes)
		asWanted(t, string(bytes))
		var s strings.Builder
		for range die.Intn(30) {
			s.WriteString(parts[die.Intn(len(parts))])
			s.WriteString([]string{"", " ", "\n", "%\n"}[die.Intn(4)])
		}
		asWanted(t, s.String())
	}
}

// spoil overwrites the lists of an answer, with their spare room.
func spoil(l []api.Rule) {
	wrong := variable("Wrong")
	for i := range l {
		args := l[i].Args
		for j := range args[:cap(args)] {
			args[:cap(args)][j] = wrong
		}
		body := l[i].Body
		for j := range body {
			args := body[j].Args
			for k := range args[:cap(args)] {
				args[:cap(args)][k] = wrong
			}
		}
		clear(body[:cap(body)])
	}
	clear(l[:cap(l)])
}

func TestNothingIsShared(t *testing.T) { // R3 and R4
	s := samples()[11] + "\n" + samples()[12]
	one, _, _ := parse.Program(s)
	two, _, _ := parse.Program(s)
	spoil(one)
	parse.Program("?")
	parse.Program("a: p( :-")
	told(t, s, two...)
	asWanted(t, s)
	for i := range two { // no two lists of one answer share memory
		for j := -1; j < len(two[i].Body); j++ {
			l, _, _ := parse.Program(s)
			args := &l[i].Args
			want := &two[i].Args
			if j >= 0 {
				args, want = &l[i].Body[j].Args, &two[i].Body[j].Args
			}
			for k := range (*args)[:cap(*args)] {
				(*args)[:cap(*args)][k] = variable("Wrong")
			}
			*args = *want
			if !sameRules(l, two) {
				t.Errorf("arguments of rule %d, literal %d, are others' too", i, j)
			}
		}
	}
}

func FuzzProgram(f *testing.F) { // P8.1 to P8.4
	for i, s := range samples() {
		f.Add(s, samples()[len(samples())-1-i])
	}
	f.Fuzz(func(t *testing.T, a, b string) {
		asWanted(t, a)
		joined(t, a, b)
	})
}
