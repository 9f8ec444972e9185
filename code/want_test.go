package code_test

import (
	"encoding/binary"
	"math"
	"slices"
	"strings"

	"avowal/api"
)

func num(n int) api.Const { return api.Const{Num: true, N: n} }

func text(s string) api.Const { return api.Const{S: s} }

func said(at, by, pred string, args ...api.Const) api.Fact {
	return api.Fact{At: at, By: by, Pred: pred, Args: args}
}

func variable(s string) api.Term { return api.Term{Var: s} }

func value(c api.Const) api.Term { return api.Term{Val: c} }

func longest() string { return strings.Repeat("x", api.MaxText) }

func cat(parts ...[]byte) []byte { return slices.Concat(parts...) }

// What stands from here to wantRule is P5.1 by its words, with the library's numbers instead of pack's.

func wantInt(n int) []byte { return binary.AppendVarint(nil, int64(n)) }

func wantText(s string) []byte { return cat(wantInt(len(s)), []byte(s)) }

func wantConst(c api.Const) []byte {
	if c.Num {
		return cat([]byte{0}, wantInt(c.N))
	}
	return cat([]byte{1}, wantText(c.S))
}

func wantTerm(t api.Term) []byte {
	switch {
	case t.Var != "":
		return cat([]byte{1}, wantText(t.Var))
	case t.Val.Num || t.Val.N != 0 || t.Val.S != "":
		return cat([]byte{2}, wantConst(t.Val))
	}
	return []byte{0}
}

func wantTerms(l []api.Term) []byte {
	b := wantInt(len(l))
	for _, t := range l {
		b = cat(b, wantTerm(t))
	}
	return b
}

func wantFact(f api.Fact) []byte {
	b := cat(wantText(f.At), wantText(f.By), wantText(f.Pred), wantInt(len(f.Args)))
	for _, c := range f.Args {
		b = cat(b, wantConst(c))
	}
	return b
}

func wantLiteral(l api.Literal) []byte {
	return cat(wantTerm(l.By), wantText(l.Pred), wantTerms(l.Args), wantTerm(l.At))
}

func wantRule(r api.Rule) []byte {
	b := cat(wantTerm(r.Home), wantText(r.Pred), wantTerms(r.Args), wantTerm(r.To), wantInt(len(r.Body)))
	for _, l := range r.Body {
		b = cat(b, wantLiteral(l))
	}
	return b
}

func wantProgram(l []api.Rule) []byte {
	b := wantInt(len(l))
	for _, r := range l {
		b = append(b, wantRule(r)...)
	}
	return b
}

// taker reads by the words of P5.3 and P5.4, and panics with the error; ill tells that something that may not be was met.
type taker struct {
	b   []byte
	at  int
	ill bool
}

func (t *taker) one() byte {
	if t.at == len(t.b) {
		panic(api.ErrShort)
	}
	t.at++
	return t.b[t.at-1]
}

func (t *taker) kind(most byte) byte {
	k := t.one()
	if k > most {
		panic(api.ErrForm)
	}
	return k
}

func (t *taker) number() int {
	from := t.at
	for i := 0; ; i++ {
		c := t.one()
		if i == 9 && c > 1 || i > 0 && c == 0 {
			panic(api.ErrForm)
		}
		if c < 128 {
			n, _ := binary.Varint(t.b[from:t.at])
			return int(n)
		}
	}
}

func (t *taker) upTo(most int) int {
	n := t.number()
	if n < 0 || n > most {
		panic(api.ErrForm)
	}
	return n
}

func (t *taker) text() string {
	n := t.upTo(65536)
	if n > len(t.b)-t.at {
		panic(api.ErrShort)
	}
	t.at += n
	t.ill = t.ill || n < 1 || n > 32
	return string(t.b[t.at-n : t.at])
}

func (t *taker) constant() api.Const {
	if t.kind(1) == 0 {
		return num(t.number())
	}
	return text(t.text())
}

func (t *taker) term() api.Term {
	switch t.kind(2) {
	case 1:
		return variable(t.text())
	case 2:
		return value(t.constant())
	}
	return api.Term{}
}

func (t *taker) terms() (l []api.Term) {
	for range t.upTo(48) {
		l = append(l, t.term())
	}
	return l
}

func (t *taker) literal() (l api.Literal) {
	l.By = t.term()
	l.Pred = t.text()
	l.Args = t.terms()
	l.At = t.term()
	return l
}

func (t *taker) rule() (r api.Rule) {
	r.Home = t.term()
	r.Pred = t.text()
	r.Args = t.terms()
	r.To = t.term()
	for range t.upTo(5) {
		r.Body = append(r.Body, t.literal())
	}
	if t.ill {
		panic(api.ErrRule)
	}
	return r
}

// caught calls what may panic with an error.
func caught(do func()) (e api.Errno) {
	defer func() {
		if x := recover(); x != nil {
			e = x.(api.Errno)
		}
	}()
	do()
	return api.OK
}

func wantReadFact(b []byte, at int) (f api.Fact, next int, e api.Errno) {
	if at < 0 || at > len(b) {
		return api.Fact{}, 0, api.ErrArg
	}
	t := &taker{b: b, at: at}
	e = caught(func() {
		f.At = t.text()
		f.By = t.text()
		f.Pred = t.text()
		for range t.upTo(48) {
			f.Args = append(f.Args, t.constant())
		}
		if t.ill {
			panic(api.ErrFact)
		}
	})
	if e != api.OK {
		return api.Fact{}, 0, e
	}
	return f, t.at, api.OK
}

func wantDecode(b []byte) (l []api.Rule, e api.Errno) {
	t := &taker{b: b}
	e = caught(func() {
		for range t.upTo(768) {
			l = append(l, t.rule())
		}
		if t.at < len(b) {
			panic(api.ErrForm)
		}
	})
	if e != api.OK {
		return nil, e
	}
	return l, api.OK
}

// alike and alikeRule are being the same, field by field, without any call of the package.

func alike(a, b api.Fact) bool {
	return a.At == b.At && a.By == b.By && a.Pred == b.Pred && slices.Equal(a.Args, b.Args)
}

func alikeLiteral(a, b api.Literal) bool {
	return a.By == b.By && a.Pred == b.Pred && slices.Equal(a.Args, b.Args) && a.At == b.At
}

func alikeRule(a, b api.Rule) bool {
	return a.Home == b.Home && a.Pred == b.Pred && slices.Equal(a.Args, b.Args) && a.To == b.To && slices.EqualFunc(a.Body, b.Body, alikeLiteral)
}

func alikeRules(a, b []api.Rule) bool { return slices.EqualFunc(a, b, alikeRule) }

// goodConsts may be, each other than the others.
func goodConsts() []api.Const {
	l := []api.Const{text("a"), text("\x00"), text("\xff"), text("ab"), text("é"), text("1"), text(longest()), text(longest()[1:])}
	for _, n := range []int{0, 1, 2, 63, 64, 97, 8191, 8192, 1 << 31, 1 << 62, math.MaxInt} {
		l = append(l, num(n), num(-n-1))
	}
	return l
}

// badConsts may not be.
func badConsts() []api.Const {
	return []api.Const{
		{}, {N: 1}, {N: -1, S: "a"}, {N: math.MinInt, S: "a"}, {Num: true, S: "a"}, {Num: true, N: 7, S: "7"}, {Num: true, S: longest()},
		text(longest() + "x"), text(strings.Repeat("é", api.MaxText)), text(strings.Repeat("y", api.MaxBytes)), text(strings.Repeat("y", api.MaxBytes+1)),
	}
}

// facts may be, each other than the others.
func facts() []api.Fact {
	l := []api.Fact{}
	for _, at := range []string{"a", "ab", "\x02", longest()} {
		for _, by := range []string{"a", "b", "\x00\x02", longest()} {
			for _, pred := range []string{"p", "a", "~ask0.1", longest()} {
				l = append(l, said(at, by, pred), said(at, by, pred, num(1)), said(at, by, pred, text("a"), num(-1)))
			}
		}
	}
	for _, c := range goodConsts() {
		l = append(l, said("x", "y", "q", c), said("x", "y", "q", c, num(5)), said("x", "y", "q", text("z"), c, c))
	}
	for n := 4; n <= api.MaxWide; n++ {
		l = append(l, said("x", "y", "wide", slices.Repeat([]api.Const{num(n)}, n)...), said("x", "y", "wide", slices.Repeat([]api.Const{text("n")}, n)...))
	}
	return append(l, said("x", "y", "wide", slices.Repeat([]api.Const{num(math.MinInt), text(longest())}, api.MaxWide/2)...))
}

// goodTerms may be: each kind of them.
func goodTerms() []api.Term {
	l := []api.Term{{}, variable("X"), variable("\x00"), variable("Xé"), variable(longest()), variable("1")}
	for _, c := range goodConsts() {
		l = append(l, value(c))
	}
	return l
}

// badTerms may not be.
func badTerms() []api.Term {
	l := []api.Term{
		{Var: "X", Val: num(0)}, {Var: "X", Val: num(1)}, {Var: "X", Val: text("X")}, {Var: "X", Val: api.Const{N: 1}}, {Var: longest(), Val: api.Const{N: -1}},
		variable(longest() + "X"), variable(strings.Repeat("X", api.MaxBytes)), {Var: longest() + "X", Val: num(1)},
	}
	for _, c := range badConsts()[1:] { // the zero constant, as a term, is none
		l = append(l, value(c))
	}
	return l
}

// places are rules that have a term at each place where one can stand.
func places(t api.Term) []api.Rule {
	x, y := variable("X"), value(num(1))
	q := api.Literal{By: x, Pred: "q", Args: []api.Term{x, y}, At: y}
	return []api.Rule{
		{Home: t, Pred: "p"},
		{Home: t, Pred: "p", Args: []api.Term{x}, To: y, Body: []api.Literal{q}},
		{Home: x, Pred: "p", Args: []api.Term{t}},
		{Home: x, Pred: "p", Args: []api.Term{t, x}, To: y, Body: []api.Literal{q, q}},
		{Home: x, Pred: "p", Args: append(slices.Repeat([]api.Term{x}, api.MaxWide-1), t)},
		{Pred: "p", To: t},
		{Home: x, Pred: "p", Args: []api.Term{y}, To: t, Body: []api.Literal{q}},
		{Pred: "p", Body: []api.Literal{{By: t, Pred: "q"}}},
		{Home: y, Pred: "p", Body: []api.Literal{q, q, {By: t, Pred: "q", Args: []api.Term{x}, At: x}}},
		{Pred: "p", Body: []api.Literal{{Pred: "q", At: t}}},
		{Pred: "p", Body: []api.Literal{q, q, q, q, {By: x, Pred: "q", Args: []api.Term{y}, At: t}}},
		{Pred: "p", Body: []api.Literal{{Pred: "q", Args: []api.Term{t}}}},
		{Pred: "p", Body: []api.Literal{q, {Pred: "q", Args: []api.Term{x, t, y}}, q}},
		{Pred: "p", Body: []api.Literal{{Pred: "q", Args: append(slices.Repeat([]api.Term{y}, api.MaxWide-1), t)}}},
	}
}

// rules may be laid, each other than the others.
func rules() []api.Rule {
	x, y, a := variable("X"), variable("Y"), value(text("a"))
	l := []api.Rule{{Pred: "p"}, {Pred: "pp"}, {Pred: longest()}, {Home: x, Pred: "p"}, {Home: a, Pred: "p"}, {Pred: "p", To: x}, {Pred: "p", To: a}}
	for _, home := range []api.Term{{}, x, a} {
		for _, to := range []api.Term{{}, y, a} {
			for n := range api.MaxBody + 2 {
				body := []api.Literal{}
				for i := range n {
					lit := api.Literal{Pred: "q", Args: slices.Repeat([]api.Term{x}, i)}
					if i&1 == 0 {
						lit.By = y
					}
					if i&2 == 0 {
						lit.At = a
					}
					body = append(body, lit)
				}
				l = append(l, api.Rule{Home: home, Pred: "r", Args: []api.Term{x, {}, a}, To: to, Body: body})
			}
		}
	}
	for _, t := range goodTerms()[1:] {
		l = append(l, api.Rule{Home: y, Pred: "s", Args: []api.Term{t, t}})
	}
	full := slices.Repeat([]api.Term{value(text(longest()))}, api.MaxWide)
	return append(l,
		api.Rule{Pred: "wide", Args: full},
		api.Rule{Pred: "wide", Body: slices.Repeat([]api.Literal{{By: full[0], Pred: longest(), Args: full, At: full[0]}}, api.MaxBody+1)},
	)
}
