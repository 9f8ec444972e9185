package lex_test

import (
	"math/big"
	"regexp"
	"slices"
	"strconv"
	"strings"
	"testing"

	"avowal/api"
	"avowal/lex"
)

func word(s string, at int) api.Token { return api.Token{Kind: api.TokWord, Text: s, At: at} }

func variable(s string, at int) api.Token { return api.Token{Kind: api.TokVar, Text: s, At: at} }

func number(n, at int) api.Token { return api.Token{Kind: api.TokNum, N: n, At: at} }

func quotation(s string, at int) api.Token { return api.Token{Kind: api.TokQuote, Text: s, At: at} }

func sign(s string, at int) api.Token { return api.Token{Kind: api.TokSign, Text: s, At: at} }

// moved are tokens of a text that stands so much farther behind.
func moved(l []api.Token, by int) []api.Token {
	m := slices.Clone(l)
	for i := range m {
		m[i].At += by
	}
	return m
}

// spelt is how a token stands in a text.
func spelt(t api.Token) string {
	switch t.Kind {
	case api.TokNum:
		return strconv.Itoa(t.N)
	case api.TokQuote:
		return `"` + t.Text + `"`
	}
	return t.Text
}

// told checks that a text has these tokens.
func told(t *testing.T, text string, want ...api.Token) {
	t.Helper()
	if l, at, e := lex.Tokens(text); !slices.Equal(l, want) || at != 0 || e != api.OK {
		t.Errorf("Tokens(%q): %v, %d, %d, want %v", text, l, at, e, want)
	}
}

// refused checks that a text has a token that can't be, at that place.
func refused(t *testing.T, text string, place int, want api.Errno) {
	t.Helper()
	if l, at, e := lex.Tokens(text); len(l) != 0 || at != place || e != want {
		t.Errorf("Tokens(%q): %v, %d, %d, want %d, %d", text, l, at, e, place, want)
	}
}

// What stands from here to wantTokens is P7.1 and P7.2 by their words, with the library's expressions and great numbers.

func beginning(expression string) *regexp.Regexp {
	return regexp.MustCompile(`^(?:` + expression + `)`)
}

var (
	betweenTokens = beginning(`(?:[ \t\n\r]|%[^\n]*)*`)
	aWord         = beginning(`[a-z][a-zA-Z0-9_]*`)
	aVariable     = beginning(`[A-Z][a-zA-Z0-9_]*`)
	someDigits    = beginning(`-?[0-9]+`)
	aNumber       = beginning(`(?:0|-?[1-9][0-9]*)$`)
	aQuotation    = beginning(`"[ !#-\[\]-~]*"`)
	aSign         = beginning(`:-|[(),.:]`)
)

func wantNumber(s string, at int) (api.Token, api.Errno) {
	n, _ := new(big.Int).SetString(s, 10)
	if !aNumber.MatchString(s) || !n.IsInt64() || int64(int(n.Int64())) != n.Int64() {
		return api.Token{}, api.ErrToken
	}
	return number(int(n.Int64()), at), api.OK
}

// wantToken is the token with which a rest of a text begins, and how many bytes it has.
func wantToken(rest string, at int) (t api.Token, size int, e api.Errno) {
	if s := someDigits.FindString(rest); s != "" {
		t, e := wantNumber(s, at)
		return t, len(s), e
	}
	if s := aSign.FindString(rest); s != "" {
		return sign(s, at), len(s), api.OK
	}
	for _, k := range []struct {
		form *regexp.Regexp
		kind int
		cut  string
	}{{aWord, api.TokWord, ""}, {aVariable, api.TokVar, ""}, {aQuotation, api.TokQuote, `"`}} {
		s := k.form.FindString(rest)
		text := strings.Trim(s, k.cut)
		if s != "" && len(text) > api.MaxText {
			return api.Token{}, 0, api.ErrLong
		}
		if s != "" {
			return api.Token{Kind: k.kind, Text: text, At: at}, len(s), api.OK
		}
	}
	return api.Token{}, 0, api.ErrToken
}

func wantTokens(text string) (l []api.Token, at int, e api.Errno) {
	if len(text) > api.MaxWords {
		return nil, 0, api.ErrBig
	}
	for {
		at += len(betweenTokens.FindString(text[at:]))
		if at == len(text) {
			return l, 0, api.OK
		}
		t, size, e := wantToken(text[at:], at)
		if e != api.OK {
			return nil, at, e
		}
		l = append(l, t)
		at += size
	}
}

// asWanted holds what Tokens answers against wantTokens.
func asWanted(t *testing.T, text string) {
	t.Helper()
	l, at, e := lex.Tokens(text)
	wl, wat, we := wantTokens(text)
	if !slices.Equal(l, wl) || at != wat || e != we {
		t.Errorf("Tokens(%q): %v, %d, %d, want %v, %d, %d", text, l, at, e, wl, wat, we)
	}
}

// wantWhere is P7.3 by its words, byte by byte.
func wantWhere(text string, at int) (line, column int) {
	line, column = 1, 1
	for i := 0; i < at && i < len(text); i++ {
		column++
		if text[i] == 10 {
			line, column = line+1, 1
		}
	}
	return line, column
}

// everyText tells each text of at most so many bytes, all of them out of some.
func everyText(bytes string, most int, tell func(string)) {
	var grow func(string)
	grow = func(s string) {
		tell(s)
		for i := range len(bytes) {
			if len(s) < most {
				grow(s + bytes[i:i+1])
			}
		}
	}
	grow("")
}
