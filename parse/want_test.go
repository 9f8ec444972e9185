package parse_test

import (
	"math"
	"math/rand"
	"regexp"
	"slices"
	"sort"
	"strconv"
	"strings"
	"testing"

	"avowal/api"
	"avowal/lex"
	"avowal/parse"
)

func variable(s string) api.Term { return api.Term{Var: s} }

func text(s string) api.Term { return api.Term{Val: api.Const{S: s}} }

func number(n int) api.Term { return api.Term{Val: api.Const{Num: true, N: n}} }

// literal is one that is neither said by somebody else nor elsewhere.
func literal(pred string, args ...api.Term) api.Literal { return api.Literal{Pred: pred, Args: args} }

func sameTerms(a, b []api.Term) bool { return slices.Equal(a, b) }

func sameLiterals(a, b api.Literal) bool {
	return a.By == b.By && a.Pred == b.Pred && sameTerms(a.Args, b.Args) && a.At == b.At
}

func sameRules(a, b []api.Rule) bool {
	return slices.EqualFunc(a, b, func(a, b api.Rule) bool {
		return a.Home == b.Home && a.Pred == b.Pred && sameTerms(a.Args, b.Args) && a.To == b.To && slices.EqualFunc(a.Body, b.Body, sameLiterals)
	})
}

// told checks that a text has these rules.
func told(t *testing.T, text string, want ...api.Rule) {
	t.Helper()
	if l, at, e := parse.Program(text); !sameRules(l, want) || at != 0 || e != api.OK {
		t.Errorf("Program(%q): %v, %d, %d, want %v", text, l, at, e, want)
	}
}

// refused checks that a text has an error, at that place, and no rules.
func refused(t *testing.T, text string, place int, want api.Errno) {
	t.Helper()
	if l, at, e := parse.Program(text); len(l) != 0 || at != place || e != want {
		t.Errorf("Program(%q): %v, %d, %d, want %d, %d", text, l, at, e, place, want)
	}
}

// What stands from here to asWanted is P8.1 to P8.3 by their words: the form as one of the library's expressions, in which a letter is a token.

const (
	aTerm    = `[VWNQ]`
	anAtom   = `W\((?:` + aTerm + `(?:,` + aTerm + `)*)?\)`
	aLiteral = `(?:` + aTerm + `s)?` + anAtom + `(?:a` + aTerm + `)?`
	aRule    = aTerm + `:` + anAtom + `(?:t` + aTerm + `)?=` + aLiteral + `(?:,` + aLiteral + `)*\.`
)

// fullRule has all that a rule can have: at each place where one can be read up to, some rest of it ends the program.
const fullRule = "W:W(W,W)tW=WsW(W,W)aW."

// exactly is a part of an expression that stands so often.
func exactly(part string, times int) string { return `(?:` + part + `){` + strconv.Itoa(times) + `}` }

var (
	aProgram     = regexp.MustCompile(`^(?:` + aRule + `)*$`)
	fullArgs     = regexp.MustCompile(`W\(` + exactly(aTerm+`,`, api.MaxArgs))
	fullBody     = regexp.MustCompile(`=` + exactly(aLiteral+`,`, api.MaxBody))
	fullPrograms = regexp.MustCompile(`^` + exactly(aRule, api.MaxRules))
)

// letter is a token's kind; an empty quotation, a kept word and a sign are kinds of their own.
func letter(t api.Token) string {
	switch {
	case t.Kind == api.TokVar:
		return "V"
	case t.Kind == api.TokNum:
		return "N"
	case t.Kind == api.TokQuote && t.Text == "":
		return "E"
	case t.Kind == api.TokQuote:
		return "Q"
	case t.Kind == api.TokSign && t.Text == ":-":
		return "="
	case t.Kind == api.TokSign:
		return t.Text
	case t.Text == "says", t.Text == "to", t.Text == "at":
		return t.Text[:1]
	}
	return "W"
}

func letters(l []api.Token) string {
	var s strings.Builder
	for _, t := range l {
		s.WriteString(letter(t))
	}
	return s.String()
}

// goesOn tells whether a program begins with these tokens.
func goesOn(s string) bool {
	for i := range len(fullRule) + 1 {
		if aProgram.MatchString(s + fullRule[i:]) {
			return true
		}
	}
	return false
}

// tooMany is the number of the first token behind as many as may be and a comma, or behind as many rules as may be.
func tooMany(s string) int {
	first := len(s)
	for _, full := range []*regexp.Regexp{fullArgs, fullBody, fullPrograms} {
		if found := full.FindStringIndex(s); found != nil {
			first = min(first, found[1])
		}
	}
	return first
}

// wantFault is what P8.3 says of a text's place and error.
func wantFault(text string) (at int, e api.Errno) {
	l, at, e := lex.Tokens(text)
	if e != api.OK {
		return at, e
	}
	s := letters(l)
	wrong := sort.Search(len(s), func(i int) bool { return !goesOn(s[:i+1]) }) // what no program begins with, none begins with more of it
	if many := tooMany(s[:wrong]); many < wrong {
		return l[many].At, api.ErrMany
	}
	if wrong < len(s) {
		return l[wrong].At, api.ErrParse
	}
	if !aProgram.MatchString(s) {
		return len(text), api.ErrParse
	}
	return 0, api.OK
}

// A piece is a token as a rule says it: a word or a sign, or a term.
type piece struct {
	word string
	term api.Term
}

func atomPieces(pred string, args []api.Term) []piece {
	l := []piece{{word: pred}, {word: "("}}
	for i, a := range args {
		if i > 0 {
			l = append(l, piece{word: ","})
		}
		l = append(l, piece{term: a})
	}
	return append(l, piece{word: ")"})
}

// withTerm are a term's pieces and those that stand by it, or none of them.
func withTerm(t api.Term, ahead, behind string) (l []piece) {
	if t == (api.Term{}) {
		return nil
	}
	for _, one := range []piece{{word: ahead}, {term: t}, {word: behind}} {
		if one != (piece{}) {
			l = append(l, one)
		}
	}
	return l
}

// pieces are the tokens that rules stand for, in the chapter's order.
func pieces(l []api.Rule) (all []piece) {
	for _, r := range l {
		all = append(all, withTerm(r.Home, "", ":")...)
		all = append(all, atomPieces(r.Pred, r.Args)...)
		all = append(all, withTerm(r.To, "to", "")...)
		sign := ":-"
		for _, b := range r.Body {
			all = append(all, piece{word: sign})
			all = append(all, withTerm(b.By, "", "says")...)
			all = append(all, atomPieces(b.Pred, b.Args)...)
			all = append(all, withTerm(b.At, "at", "")...)
			sign = ","
		}
		all = append(all, piece{word: "."})
	}
	return all
}

// standsFor tells whether a token is a piece.
func standsFor(t api.Token, p piece) bool {
	if p.word != "" {
		return (t.Kind == api.TokWord || t.Kind == api.TokSign) && t.Text == p.word
	}
	switch t.Kind {
	case api.TokVar:
		return p.term == variable(t.Text)
	case api.TokNum:
		return p.term == number(t.N)
	case api.TokWord, api.TokQuote:
		return p.term == text(t.Text)
	}
	return false
}

// asWanted holds what Program answers against the place and the error of P8.3; where there is none, it holds the rules against the text's tokens.
func asWanted(t *testing.T, text string) {
	t.Helper()
	at, e := wantFault(text)
	if e != api.OK {
		refused(t, text, at, e)
		return
	}
	tokens, _, _ := lex.Tokens(text)
	if l, at, e := parse.Program(text); at != 0 || e != api.OK || !slices.EqualFunc(tokens, pieces(l), standsFor) {
		t.Errorf("Program(%q): %v, %d, %d, want rules that are its tokens", text, l, at, e)
	}
}

// spelt is how a token stands in a text.
func spelt(t api.Token) string {
	switch t.Kind {
	case api.TokNum:
		return strconv.Itoa(t.N)
	case api.TokQuote:
		return `"` + t.Text + `"`
	}
	return t.Text
}

// spelling is how a piece may stand in a text: a text that may be a word stands as one or between quotes, as the die falls.
func spelling(die *rand.Rand, p piece) string {
	switch {
	case p.word != "":
		return p.word
	case p.term.Var != "":
		return p.term.Var
	case p.term.Val.Num:
		return strconv.Itoa(p.term.Val.N)
	}
	s := p.term.Val.S
	if l, _, e := lex.Tokens(s); e == api.OK && len(l) == 1 && letter(l[0]) == "W" && l[0].Text == s && die.Intn(2) == 0 {
		return s
	}
	return `"` + s + `"`
}

// between tells what may stand between tokens.
func between() []string {
	return []string{" ", "\n", "\t", "\r", "\r\n", "  ", " \t\n\r ", "%\n", " % a: p() :- q().\n", "%\"\n", "%%\n\n%?\x00\xff\n", "\n\n\n"}
}

// written is a text of these rules, with some of what may stand between tokens.
func written(die *rand.Rand, l []api.Rule) string {
	var s strings.Builder
	for _, p := range pieces(l) {
		s.WriteString(spelling(die, p))
		s.WriteString(between()[die.Intn(len(between()))])
	}
	return s.String()
}

// terms tells terms of each kind.
func terms() []api.Term {
	return []api.Term{
		variable("X"), variable("A"), variable("Says"), variable("TO"), variable("At"), variable("V" + strings.Repeat("_", api.MaxText-1)),
		text("a"), text("says_"), text("tO"), text("at1"), text("sayss"), text("w" + strings.Repeat("9", api.MaxText-1)),
		text("x y"), text("says"), text("to"), text("at"), text("X"), text("1"), text("-"), text("("), text(")"), text(","), text("."), text(":"), text(":-"), text(" "), text("%"), text(strings.Repeat("~", api.MaxText)),
		number(0), number(1), number(-1), number(42), number(math.MaxInt), number(math.MinInt),
	}
}

func anyTerm(die *rand.Rand) api.Term { return terms()[die.Intn(len(terms()))] }

func anyTerms(die *rand.Rand) (l []api.Term) {
	for range die.Intn(api.MaxArgs + 1) {
		l = append(l, anyTerm(die))
	}
	return l
}

func anyPred(die *rand.Rand) string {
	return []string{"p", "q", "saysp", "top", "at_", "r2D2"}[die.Intn(6)]
}

// perhaps is a term or none.
func perhaps(die *rand.Rand) api.Term {
	if die.Intn(2) == 0 {
		return api.Term{}
	}
	return anyTerm(die)
}

func anyRule(die *rand.Rand) api.Rule {
	r := api.Rule{Home: anyTerm(die), Pred: anyPred(die), Args: anyTerms(die), To: perhaps(die)}
	for range 1 + die.Intn(api.MaxBody) {
		r.Body = append(r.Body, api.Literal{By: perhaps(die), Pred: anyPred(die), Args: anyTerms(die), At: perhaps(die)})
	}
	return r
}

func anyRules(die *rand.Rand, many int) (l []api.Rule) {
	for range many {
		l = append(l, anyRule(die))
	}
	return l
}
