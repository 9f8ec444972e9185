package code

import (
	"avowal/api"
	"avowal/pack"
)

// reader goes through bytes from the left on. It keeps the first error, behind which it reads nothing but zero values, so that whoever reads several parts asks once.
type reader struct {
	b  []byte
	at int
	e  api.Errno
	// hollow: a variable or a text without a byte was read. As a Term it is none, which may be: the rule alone does not tell any more that it may not.
	hollow bool
}

func (r *reader) number() int {
	if r.e != api.OK {
		return 0
	}
	n, next, e := pack.Int(r.b, r.at)
	r.at, r.e = next, e
	return n
}

func (r *reader) count(most int) int {
	if r.e != api.OK {
		return 0
	}
	n, next, e := pack.Count(r.b, r.at, most)
	r.at, r.e = next, e
	return n
}

func (r *reader) text() string {
	if r.e != api.OK {
		return ""
	}
	s, next, e := pack.Text(r.b, r.at)
	r.at, r.e = next, e
	return s
}

// kind reads a byte from 0 to most. One that is not there is no kind that is none: the bytes end.
func (r *reader) kind(most byte) byte {
	if r.e != api.OK {
		return 0
	}
	if r.at >= len(r.b) {
		r.e = api.ErrShort
		return 0
	}
	k := r.b[r.at]
	if k > most {
		r.e = api.ErrForm
		return 0
	}
	r.at++
	return k
}

func readList[T any](r *reader, most int, read func() T) []T {
	var l []T
	for range r.count(most) {
		x := read()
		if r.e != api.OK {
			return nil
		}
		l = append(l, x)
	}
	return l
}

func (r *reader) constant() api.Const {
	if r.kind(constText) == constNumber {
		return api.Const{Num: true, N: r.number()}
	}
	return api.Const{S: r.text()}
}

func (r *reader) term() api.Term {
	var t api.Term
	kind := r.kind(termConst)
	switch kind {
	case termVar:
		t.Var = r.text()
	case termConst:
		t.Val = r.constant()
	}
	if kindOf(t) != kind {
		r.hollow = true
	}
	return t
}

func (r *reader) fact() api.Fact {
	var f api.Fact
	f.At = r.text()
	f.By = r.text()
	f.Pred = r.text()
	f.Args = readList(r, api.MaxWide, r.constant)
	return f
}

func (r *reader) literal() api.Literal {
	var l api.Literal
	l.By = r.term()
	l.Pred = r.text()
	l.Args = readList(r, api.MaxWide, r.term)
	l.At = r.term()
	return l
}

// rule refuses what it read behind its last byte alone: what can't be read within it comes first.
func (r *reader) rule() api.Rule {
	var u api.Rule
	u.Home = r.term()
	u.Pred = r.text()
	u.Args = readList(r, api.MaxWide, r.term)
	u.To = r.term()
	u.Body = readList(r, mostBody, r.literal)
	if r.e == api.OK && (r.hollow || !mayLay(u)) {
		r.e = api.ErrRule
	}
	return u
}
