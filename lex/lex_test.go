package lex_test

import (
	"math"
	"math/big"
	"slices"
	"strconv"
	"strings"
	"testing"

	"avowal/api"
	"avowal/lex"
)

const (
	blanks  = " \t\n\r"
	signs   = "(),.:"
	smalls  = "abcdefghijklmnopqrstuvwxyz"
	greats  = "ABCDEFGHIJKLMNOPQRSTUVWXYZ"
	digits  = "0123456789"
	inWords = smalls + greats + digits + "_"
)

// samples are texts of many kinds, some with a token that can't be.
func samples() []string {
	long := strings.Repeat("x", api.MaxText+1)
	return []string{
		"", " ", "\n", "%", "%\n", "%x", "a", "X", "0", "-7", `""`, `"x y"`, ":", ":-", ".", "a%b", "a %b\nc",
		"p(X) :- q.", `A: p(X, 1) to b :- X says q("x y"), r() at A.`, "a:-b:-c", "a: -1", ":-1", "::-:-:", "1.2.3", "0 0 0", "1a", "a1", "0x", "-1-2",
		"% a remark\n% one more\n a", "a\r\nb\r\n", "\t\t\"\"\t", "a\n\n\n", "\n\n\na", "a % \"", "\"%\" %\"%\"",
		"007", "-", "--1", "-0", "a -", "_", "a\x00", "\"", "\"a", "a \"b\n\"", "\"\\\"", "\xff", "é", "a?b", "a'b'", `"` + long + `"`, long, strings.ToUpper(long), `"` + long, "a\n" + long + " ?", "? " + long,
		strings.Repeat("a ", 100), strings.Repeat("(", 100), strings.Repeat(":", 9) + "-", strings.Repeat("1", 100),
	}
}

func TestExamples(t *testing.T) { // the chapter's
	told(t, "p(X) :- q.", word("p", 0), sign("(", 1), variable("X", 2), sign(")", 3), sign(":-", 5), word("q", 8), sign(".", 9))
	refused(t, "007", 0, api.ErrToken)
	refused(t, "-", 0, api.ErrToken)
	told(t, "a%b", word("a", 0))
}

func TestProgram(t *testing.T) { // P7.1: all kinds, one behind the other
	told(t, "% who may\r\nA: p(X1, -20) to b :-\n\tX1 says q_9(\"x %y\") at A. %end",
		variable("A", 11), sign(":", 12), word("p", 14), sign("(", 15), variable("X1", 16), sign(",", 18), number(-20, 20), sign(")", 23), word("to", 25), word("b", 28), sign(":-", 30),
		variable("X1", 34), word("says", 37), word("q_9", 42), sign("(", 45), quotation("x %y", 46), sign(")", 52), word("at", 54), variable("A", 57), sign(".", 58))
}

// each tells one token of each kind and shape, as it stands at the beginning of a text.
func each() []api.Token {
	l := []api.Token{
		word("a", 0), word("z", 0), word("says", 0), word("aZ09_", 0), word("a_", 0), word("a__b", 0), word("x0", 0), word("m"+inWords[:api.MaxText-1], 0), word("zzZZ99__", 0),
		variable("A", 0), variable("Z", 0), variable("Xs", 0), variable("Az09_", 0), variable("A_", 0), variable("X0", 0), variable("M"+inWords[len(inWords)-api.MaxText+1:], 0),
		number(0, 0), number(1, 0), number(9, 0), number(-1, 0), number(-9, 0), number(10, 0), number(-10, 0), number(1234567890, 0), number(100, 0), number(math.MaxInt, 0), number(math.MinInt, 0),
		quotation("", 0), quotation(" ", 0), quotation("a", 0), quotation("x y", 0), quotation("%", 0), quotation(":- 1 -", 0), quotation("007", 0), quotation(strings.Repeat("~", api.MaxText), 0),
		sign("(", 0), sign(")", 0), sign(",", 0), sign(".", 0), sign(":", 0), sign(":-", 0),
	}
	for _, s := range digits {
		l = append(l, number(int(s-'0'), 0))
	}
	return l
}

func TestEachAlone(t *testing.T) { // P7.1
	for _, one := range each() {
		s := spelt(one)
		told(t, s, one)
		for _, ahead := range []string{" ", "\t", "\n", "\r", " \t\r\n ", "%\n", "% \"x( :-\n", "%%\n\n%\n"} {
			told(t, ahead+s, moved([]api.Token{one}, len(ahead))...)
			told(t, s+ahead, one)
			told(t, ahead+s+ahead, moved([]api.Token{one}, len(ahead))...)
		}
		told(t, s+"%", one)
		told(t, s+"%"+s, one)
	}
}

// melts tells whether two tokens without a blank between them are not these two.
func melts(a, b api.Token) bool {
	first := spelt(b)[:1]
	switch a.Kind {
	case api.TokWord, api.TokVar:
		return strings.Contains(inWords, first)
	case api.TokNum:
		return strings.Contains(digits, first)
	case api.TokSign:
		return a.Text == ":" && first == "-"
	}
	return false
}

func TestEachTwo(t *testing.T) { // P7.1: with each blank between, with a remark, and with nothing
	for _, a := range each() {
		for _, b := range each() {
			s := spelt(a)
			for _, between := range []string{" ", "\t", "\n", "\r", "%\n", "%-\n"} {
				told(t, s+between+spelt(b), a, moved([]api.Token{b}, len(s+between))[0])
			}
			if !melts(a, b) {
				told(t, s+spelt(b), a, moved([]api.Token{b}, len(s))[0])
			}
		}
	}
}

func TestWordsAndVariables(t *testing.T) { // P7.1: each byte that may stand in them; each other one ends them
	for b := range 256 {
		c := string([]byte{byte(b)})
		for _, one := range []api.Token{word("a", 0), variable("A", 0)} {
			whole, front := one, one
			whole.Text += c + "Z"
			front.Text += "9_"
			switch {
			case strings.Contains(inWords, c):
				told(t, whole.Text, whole)
				told(t, one.Text+c+" ", api.Token{Kind: one.Kind, Text: one.Text + c})
			case strings.Contains(blanks, c):
				told(t, front.Text+c+"z", front, word("z", 4))
			case strings.Contains(signs, c):
				told(t, front.Text+c+"z", front, sign(c, 3), word("z", 4))
			case c == "%":
				told(t, front.Text+c+"z", front)
			case c == "-":
				told(t, front.Text+c+"1", front, number(-1, 3))
			case c == `"`:
				told(t, front.Text+`""z`, front, quotation("", 3), word("z", 5))
			default:
				refused(t, front.Text+c+"z", 3, api.ErrToken)
			}
		}
		if strings.Contains(smalls, c) {
			told(t, c, word(c, 0))
		} else if strings.Contains(greats, c) {
			told(t, c, variable(c, 0))
		}
	}
}

func TestNumbers(t *testing.T) { // P7.1
	for _, c := range []struct {
		text string
		want []api.Token
	}{
		{"0", []api.Token{number(0, 0)}},
		{"0a", []api.Token{number(0, 0), word("a", 1)}},
		{"12X", []api.Token{number(12, 0), variable("X", 2)}},
		{"1-2", []api.Token{number(1, 0), number(-2, 1)}},
		{"0-1", []api.Token{number(0, 0), number(-1, 1)}},
		{"-1-2-3", []api.Token{number(-1, 0), number(-2, 2), number(-3, 4)}},
		{"1.0", []api.Token{number(1, 0), sign(".", 1), number(0, 2)}},
		{"0.0", []api.Token{number(0, 0), sign(".", 1), number(0, 2)}},
		{"1e5", []api.Token{number(1, 0), word("e5", 1)}},
		{"0x10", []api.Token{number(0, 0), word("x10", 1)}},
		{"1,0", []api.Token{number(1, 0), sign(",", 1), number(0, 2)}},
		{"5\"5\"5", []api.Token{number(5, 0), quotation("5", 1), number(5, 4)}},
		{"3%4", []api.Token{number(3, 0)}},
		{"-3%4\n5", []api.Token{number(-3, 0), number(5, 5)}},
		{"0 0", []api.Token{number(0, 0), number(0, 2)}},
		{":-1", []api.Token{sign(":-", 0), number(1, 2)}},
		{":--1", []api.Token{sign(":-", 0), number(-1, 2)}},
		{": -1", []api.Token{sign(":", 0), number(-1, 2)}},
	} {
		told(t, c.text, c.want...)
	}
	for i := range 63 { // about each power of two
		for _, n := range []int{1<<i - 1, 1 << i, -1 << i, -1<<i + 1} {
			told(t, strconv.Itoa(n), number(n, 0))
		}
	}
	refused(t, "12_", 2, api.ErrToken)
	refused(t, "1,000", 2, api.ErrToken)
	refused(t, "+1", 0, api.ErrToken)
}

func TestNumbersThatCannotBe(t *testing.T) { // P7.2
	beyond := new(big.Int).Add(big.NewInt(math.MaxInt), big.NewInt(1)).String()
	below := new(big.Int).Sub(big.NewInt(math.MinInt), big.NewInt(1)).String()
	for _, s := range []string{
		"00", "01", "000", "007", "-0", "-00", "-01", "-007", "09", "0" + beyond, "-0" + beyond, strings.Repeat("0", 500), "0" + strings.Repeat("1", 500),
		beyond, below, "-" + beyond + "0", beyond + "0", beyond[:len(beyond)-1] + "9", "18446744073709551615", "18446744073709551616", "18446744073709551617", "-18446744073709551615", "36893488147419103232",
		strings.Repeat("9", 19), strings.Repeat("9", 20), "-" + strings.Repeat("9", 20), "1" + strings.Repeat("0", 100), "-1" + strings.Repeat("0", 1000),
		"-", "--", "--1", "- 1", "-a", "-A", "-_", "-(", "-\"1\"", "-\n1", "-%\n1", "-.", "-:-",
	} {
		refused(t, s, 0, api.ErrToken)
		refused(t, s+" ", 0, api.ErrToken)
		refused(t, "a "+s+" b", 2, api.ErrToken)
		refused(t, "1\n "+s+".", 3, api.ErrToken)
		refused(t, `"x"`+s, 3, api.ErrToken)
	}
	refused(t, "1-", 1, api.ErrToken)
	refused(t, "1--2", 1, api.ErrToken)
	refused(t, ":--", 2, api.ErrToken)
	refused(t, ": -", 2, api.ErrToken)
	refused(t, "a-", 1, api.ErrToken)
}

func TestQuotations(t *testing.T) { // P7.1 and P7.2: each byte within
	for b := range 256 {
		c := string([]byte{byte(b)})
		s := `"` + c + `" ""`
		switch {
		case c == `"`:
			refused(t, s, 5, api.ErrToken)
			told(t, s+`"`, quotation("", 0), quotation(" ", 2), quotation("", 5))
		case b < 32 || b > 126 || b == 92:
			refused(t, s, 0, api.ErrToken)
			refused(t, `a"x`+c+`y"`, 1, api.ErrToken)
			refused(t, `a"x`+c, 1, api.ErrToken)
		default:
			told(t, s, quotation(c, 0), quotation("", 4))
			told(t, `a"x`+c+`y"b`, word("a", 0), quotation("x"+c+"y", 1), word("b", 6))
		}
	}
	told(t, `""""`, quotation("", 0), quotation("", 2))
	told(t, `"a""b"`, quotation("a", 0), quotation("b", 3))
	told(t, `"a"b"c"`, quotation("a", 0), word("b", 3), quotation("c", 4))
	told(t, `"% no remark"`, quotation("% no remark", 0))
	told(t, `"(),.::-"`, quotation("(),.::-", 0))
}

func TestQuotationsWithoutEnd(t *testing.T) { // P7.2
	long := strings.Repeat("x", api.MaxText+1)
	refused(t, `"`, 0, api.ErrToken)
	refused(t, `"""`, 2, api.ErrToken)
	for _, s := range []string{"a", " ", "%", "a b", long, long + long, strings.Repeat("x", api.MaxText), strings.Repeat("x", api.MaxWords-3)} {
		refused(t, `"`+s, 0, api.ErrToken)
		refused(t, `p "`+s, 2, api.ErrToken)
		for _, b := range []byte{0, 9, 10, 13, 31, 92, 127, 128, 255} {
			if len(s) < 200 {
				refused(t, `p "`+s+string([]byte{b})+`"`, 2, api.ErrToken)
				refused(t, `p "`+string([]byte{b})+s+`"`, 2, api.ErrToken)
			}
		}
	}
	refused(t, "\"a\nb\"", 0, api.ErrToken)
	refused(t, "\"a\né\"", 0, api.ErrToken)
	refused(t, "a % \"\n\"", 6, api.ErrToken)
}

func TestSigns(t *testing.T) { // P7.1: the longest
	told(t, "(),.::-", sign("(", 0), sign(")", 1), sign(",", 2), sign(".", 3), sign(":", 4), sign(":-", 5))
	told(t, ":-:", sign(":-", 0), sign(":", 2))
	told(t, "::", sign(":", 0), sign(":", 1))
	told(t, "::-", sign(":", 0), sign(":-", 1))
	told(t, ":-:-", sign(":-", 0), sign(":-", 2))
	told(t, ": :-", sign(":", 0), sign(":-", 2))
	told(t, ":%\n-1", sign(":", 0), number(-1, 3))
	told(t, "..", sign(".", 0), sign(".", 1))
	told(t, "(((", sign("(", 0), sign("(", 1), sign("(", 2))
	told(t, "a:-b", word("a", 0), sign(":-", 1), word("b", 3))
	told(t, "a:", word("a", 0), sign(":", 1))
	told(t, "a:-", word("a", 0), sign(":-", 1))
	refused(t, ": -", 2, api.ErrToken)
	refused(t, ":\n-", 2, api.ErrToken)
	refused(t, "(-)", 1, api.ErrToken)
}

func TestBlanksAndRemarks(t *testing.T) { // P7.1
	for _, s := range []string{"", " ", "\t", "\n", "\r", " \t\n\r", "%", "%%", "%\n", "%a", "%a\n", "%\n%", "% \"a\n% 007 -\n", "%\x00\xff\\é?\n", "\n%\r\t\n\r", "%a\rb 007 ?"} {
		told(t, s)
		told(t, s+"\n"+s)
		told(t, "a"+s, word("a", 0))
		told(t, s+"\na", word("a", len(s)+1))
		told(t, "a"+s+"\nB", word("a", 0), variable("B", len(s)+2))
	}
	for b := range 256 { // whatever stands in a remark, but 10
		c := string([]byte{byte(b)})
		if c == "\n" {
			continue
		}
		told(t, "%"+c)
		told(t, "a%"+c+"x", word("a", 0))
		told(t, "%"+c+"x\nb", word("b", 4))
	}
	told(t, "a%b\rc", word("a", 0)) // 13 ends no remark
	told(t, strings.Repeat(" ", api.MaxWords))
	told(t, strings.Repeat("%", api.MaxWords))
	told(t, strings.Repeat("%\n", api.MaxWords/2))
}

func TestBytesThatBeginNone(t *testing.T) { // P7.2
	n := 0
	for b := range 256 {
		c := string([]byte{byte(b)})
		if strings.Contains(blanks+signs+smalls+greats+digits+"%", c) {
			continue
		}
		n++
		refused(t, c, 0, api.ErrToken)
		refused(t, c+" a", 0, api.ErrToken)
		refused(t, " \n"+c, 2, api.ErrToken)
		refused(t, "%"+c+"\n"+c, 3, api.ErrToken)
		refused(t, "p(X) "+c, 5, api.ErrToken)
		refused(t, "p(X)\n"+c+" :- q.", 5, api.ErrToken)
		refused(t, "p(X)"+c, 4, api.ErrToken)
		refused(t, `"a"`+c+" b", 3, api.ErrToken)
	}
	if n != 256-len(blanks+signs+smalls+greats+digits+"%") {
		t.Error("bytes that begin none:", n)
	}
}

func TestLong(t *testing.T) { // P7.2
	for _, n := range []int{api.MaxText - 1, api.MaxText, api.MaxText + 1, api.MaxText + 2, 2 * api.MaxText, 256, 256 + api.MaxText, 1000} {
		for _, one := range []api.Token{word("a"+strings.Repeat("B", n-1), 0), variable("A"+strings.Repeat("_", n-1), 0), quotation(strings.Repeat(" ", n), 0), quotation(strings.Repeat("7", n), 0)} {
			s := spelt(one)
			if n <= api.MaxText {
				told(t, s, one)
				told(t, "a "+s+":", word("a", 0), moved([]api.Token{one}, 2)[0], sign(":", 2+len(s)))
				continue
			}
			refused(t, s, 0, api.ErrLong)
			refused(t, s+" ?", 0, api.ErrLong)
			refused(t, "a "+s+":", 2, api.ErrLong)
			refused(t, "a%\n"+s+"?", 3, api.ErrLong)
		}
	}
	var many []api.Token // neither how many there are nor how long a remark is counts
	for i := range 1000 {
		many = append(many, word("a", 2*i))
	}
	told(t, strings.Repeat("a ", 1000)+"%"+strings.Repeat("x", 1000), many...)
}

func TestFirstOfSeveral(t *testing.T) { // P7.2
	long := strings.Repeat("x", api.MaxText+1)
	faults := []struct {
		text string
		e    api.Errno
	}{{"?", api.ErrToken}, {"-", api.ErrToken}, {"01", api.ErrToken}, {"99999999999999999999", api.ErrToken}, {"\"\n", api.ErrToken}, {long, api.ErrLong}, {"X" + long, api.ErrLong}, {`"` + long + `"`, api.ErrLong}}
	for _, a := range faults {
		for _, b := range faults {
			refused(t, a.text+" "+b.text, 0, a.e)
			refused(t, "p(\n"+a.text+"\n"+b.text, 3, a.e)
			front := "p % " + strings.TrimSuffix(b.text, "\n") + "\n"
			refused(t, front+a.text+" "+b.text, len(front), a.e)
		}
	}
}

func TestBig(t *testing.T) { // P7.2
	for _, s := range []string{" ", "\n", "%", "(", ":"} {
		full := strings.Repeat(s, api.MaxWords)
		if _, at, e := lex.Tokens(full); at != 0 || e != api.OK {
			t.Errorf("%d times %q: %d, %d", len(full), s, at, e)
		}
		refused(t, full+" ", 0, api.ErrBig)
		refused(t, full+full, 0, api.ErrBig)
		refused(t, full+"?", 0, api.ErrBig)
		refused(t, "?"+full, 0, api.ErrBig)
	}
	refused(t, strings.Repeat(" ", api.MaxWords-1)+"?", api.MaxWords-1, api.ErrToken)
	told(t, strings.Repeat(" ", api.MaxWords-1)+"a", word("a", api.MaxWords-1))
	told(t, "a"+strings.Repeat("\n", api.MaxWords-1), word("a", 0))
	told(t, strings.Repeat(" ", api.MaxWords-2)+":-", sign(":-", api.MaxWords-2))
	refused(t, strings.Repeat("x", api.MaxWords), 0, api.ErrLong)
	refused(t, strings.Repeat("x", api.MaxWords+1), 0, api.ErrBig)
	refused(t, strings.Repeat("1", api.MaxWords), 0, api.ErrToken)
	refused(t, strings.Repeat("1", api.MaxWords+1), 0, api.ErrBig)
	refused(t, `"`+strings.Repeat("x", api.MaxWords), 0, api.ErrBig)
	refused(t, strings.Repeat("a?", 1<<20), 0, api.ErrBig)
}

func TestWhere(t *testing.T) { // P7.3
	for _, c := range []struct {
		text             string
		at, line, column int
	}{
		{"", 0, 1, 1}, {"", 1, 1, 1}, {"", -1, 1, 1}, {"", math.MaxInt, 1, 1}, {"", math.MinInt, 1, 1},
		{"abc", 0, 1, 1}, {"abc", 1, 1, 2}, {"abc", 2, 1, 3}, {"abc", 3, 1, 4}, {"abc", 4, 1, 4}, {"abc", math.MaxInt, 1, 4}, {"abc", -1, 1, 1}, {"abc", math.MinInt, 1, 1},
		{"a\nbc", 0, 1, 1}, {"a\nbc", 1, 1, 2}, {"a\nbc", 2, 2, 1}, {"a\nbc", 3, 2, 2}, {"a\nbc", 4, 2, 3}, {"a\nbc", 5, 2, 3},
		{"\n", 0, 1, 1}, {"\n", 1, 2, 1}, {"\n", 2, 2, 1}, {"\n", -5, 1, 1},
		{"\n\n\n", 0, 1, 1}, {"\n\n\n", 1, 2, 1}, {"\n\n\n", 2, 3, 1}, {"\n\n\n", 3, 4, 1}, {"\n\n\n", 99, 4, 1},
		{"a\r\nb", 1, 1, 2}, {"a\r\nb", 2, 1, 3}, {"a\r\nb", 3, 2, 1}, {"a\r\nb", 4, 2, 2},
		{"a\rb", 2, 1, 3}, {"a\rb", 3, 1, 4}, {"\r\r", 2, 1, 3},
		{"é\té", 2, 1, 3}, {"é\té", 5, 1, 6}, {"\xff\x00", 2, 1, 3},
	} {
		if line, column := lex.Where(c.text, c.at); line != c.line || column != c.column {
			t.Errorf("Where(%q, %d): %d, %d, want %d, %d", c.text, c.at, line, column, c.line, c.column)
		}
	}
}

func TestWhereOfEachPlace(t *testing.T) { // P7.3: of texts that have no tokens too, and of longer ones than have
	texts := append(samples(), strings.Repeat("\n", 50), strings.Repeat("ab\n\n", 20), "\n"+strings.Repeat("x", 300)+"\ny", strings.Repeat("\r\n", 30))
	everyText("a\n\r", 5, func(s string) { texts = append(texts, s) })
	for _, s := range texts {
		for at := -2; at <= len(s)+2; at++ {
			line, column := lex.Where(s, at)
			if wl, wc := wantWhere(s, at); line != wl || column != wc {
				t.Errorf("Where(%q, %d): %d, %d, want %d, %d", s, at, line, column, wl, wc)
			}
		}
	}
	big := strings.Repeat("x\n", api.MaxWords)
	if line, column := lex.Where(big, len(big)-1); line != api.MaxWords || column != 2 {
		t.Error("a place far behind:", line, column)
	}
}

func TestWhereOfTokens(t *testing.T) { // P7.3: places that Tokens tells
	text := "p(X) :-\n\tq.\n\n  ?"
	_, at, e := lex.Tokens(text)
	if line, column := lex.Where(text, at); e != api.ErrToken || line != 4 || column != 3 {
		t.Error("the place of ?:", line, column)
	}
}

// stands checks P7.4 of a text's tokens: each begins behind the one ahead of it, and what is no token is blanks and remarks.
func stands(t *testing.T, text string, l []api.Token) {
	t.Helper()
	end := 0
	for _, one := range l {
		if one.At < end || !strings.HasPrefix(text[one.At:], spelt(one)) {
			t.Errorf("%q: %v, and the one ahead of it ends at %d", text, one, end)
			return
		}
		if between := text[end:one.At]; betweenTokens.FindString(between) != between {
			t.Errorf("%q: %q stands between tokens", text, between)
		}
		end = one.At + len(spelt(one))
	}
	if rest := text[end:]; betweenTokens.FindString(rest) != rest {
		t.Errorf("%q: %q stands behind all tokens", text, rest)
	}
}

// ended checks P7.4 of a text: a blank more changes nothing, of its fault neither; nor does a remark, if all its tokens can be.
func ended(t *testing.T, text string) {
	t.Helper()
	l, at, e := lex.Tokens(text)
	more := []string{" ", "\t", "\n", "\r", "\n \r\t\n"}
	if e == api.OK {
		stands(t, text, l)
		more = append(more, "%", "%x", "%\n", " % \" ?", "\n%\n%")
	}
	for _, m := range more {
		if len(text+m) > api.MaxWords {
			continue
		}
		if l2, at2, e2 := lex.Tokens(text + m); !slices.Equal(l2, l) || at2 != at || e2 != e {
			t.Errorf("%q behind %q: %v, %d, %d instead of %v, %d, %d", m, text, l2, at2, e2, l, at, e)
		}
	}
}

// joined checks that two texts with a byte 10 between them have the tokens of both, or the first fault of both.
func joined(t *testing.T, a, b string) {
	t.Helper()
	l, at, e := lex.Tokens(a)
	if e == api.OK {
		more, place, fault := lex.Tokens(b)
		l, e = append(l, moved(more, len(a)+1)...), fault
		if e != api.OK {
			l, at = nil, place+len(a)+1
		}
	}
	if len(a+b)+1 > api.MaxWords {
		l, at, e = nil, 0, api.ErrBig
	}
	if l2, at2, e2 := lex.Tokens(a + "\n" + b); !slices.Equal(l2, l) || at2 != at || e2 != e {
		t.Errorf("%q, then %q: %v, %d, %d, want %v, %d, %d", a, b, l2, at2, e2, l, at, e)
	}
}

func TestRise(t *testing.T) { // P7.4
	for _, a := range samples() {
		asWanted(t, a)
		ended(t, a)
		for _, b := range samples() {
			joined(t, a, b)
		}
	}
}

func TestEveryShortText(t *testing.T) { // P7.1, P7.2 and P7.4
	everyText("aB01-_\":. \n%\\", 4, func(s string) {
		asWanted(t, s)
		ended(t, s)
	})
	everyText("a0-\":%\n", 6, func(s string) { asWanted(t, s) })
}

func TestTwoBytes(t *testing.T) { // P7.1 and P7.2: any two bytes, next to each other
	for i := range 1 << 16 {
		s := string([]byte{byte(i >> 8), byte(i)})
		asWanted(t, s)
		asWanted(t, "a "+s+" b")
	}
}

func TestNothingIsShared(t *testing.T) { // R3 and R4
	text := "p(X, 1) :- \"x\"."
	one, _, _ := lex.Tokens(text)
	two, _, _ := lex.Tokens(text)
	want := slices.Clone(two)
	clear(one[:cap(one)])
	three, _, _ := lex.Tokens(text)
	if !slices.Equal(two, want) || !slices.Equal(three, want) {
		t.Error("an answer is changed by another one:", two, three)
	}
	lex.Tokens("?")
	lex.Tokens("%")
	told(t, text, want...)
}

func FuzzTokens(f *testing.F) { // P7.1 to P7.4
	for i, s := range samples() {
		f.Add(s, samples()[len(samples())-1-i], i)
	}
	f.Fuzz(func(t *testing.T, a, b string, at int) {
		asWanted(t, a)
		ended(t, a)
		joined(t, a, b)
		line, column := lex.Where(a, at)
		if wl, wc := wantWhere(a, at); line != wl || column != wc {
			t.Errorf("Where(%q, %d): %d, %d, want %d, %d", a, at, line, column, wl, wc)
		}
	})
}
