package code

import (
	"slices"

	"avowal/api"
	"avowal/fact"
	"avowal/pack"
)

// mayLay tells whether a rule may be laid.
func mayLay(r api.Rule) bool {
	if !mayBe(r.Home) || !mayBe(r.To) || !mayAtom(r.Pred, r.Args) || len(r.Body) > mostBody {
		return false
	}
	return !slices.ContainsFunc(r.Body, func(l api.Literal) bool {
		return !mayBe(l.By) || !mayBe(l.At) || !mayAtom(l.Pred, l.Args)
	})
}

// mayAtom tells whether a predicate and its arguments may be.
func mayAtom(pred string, args []api.Term) bool {
	if !fits(pred) || len(args) > api.MaxWide {
		return false
	}
	return !slices.ContainsFunc(args, func(t api.Term) bool { return !mayBe(t) })
}

// mayBe tells whether a term may be. A variable has no Val, as its bytes would not tell it.
func mayBe(t api.Term) bool {
	switch kindOf(t) {
	case termNone:
		return true
	case termVar:
		return fits(t.Var) && t.Val == api.Const{}
	}
	return fact.Good(t.Val)
}

func kindOf(t api.Term) byte {
	if t == (api.Term{}) {
		return termNone
	}
	if t.Var != "" {
		return termVar
	}
	return termConst
}

// fits tells whether a text may be a predicate or a variable.
func fits(s string) bool {
	return len(s) >= 1 && len(s) <= api.MaxText
}

// appendInt lays a number in place: pack's own call copies what stands ahead of it, which for each number of a long program would be nearly all of it.
func appendInt(b []byte, n int) []byte {
	return append(b, pack.PutInt(nil, n)...)
}

// appendText lays a text in place, as appendInt does.
func appendText(b []byte, s string) []byte {
	return append(b, pack.PutText(nil, s)...)
}

func appendList[T any](b []byte, l []T, put func([]byte, T) []byte) []byte {
	b = appendInt(b, len(l))
	for _, x := range l {
		b = put(b, x)
	}
	return b
}

func appendConst(b []byte, c api.Const) []byte {
	if c.Num {
		return appendInt(append(b, constNumber), c.N)
	}
	return appendText(append(b, constText), c.S)
}

func appendTerm(b []byte, t api.Term) []byte {
	kind := kindOf(t)
	b = append(b, kind)
	switch kind {
	case termVar:
		return appendText(b, t.Var)
	case termConst:
		return appendConst(b, t.Val)
	}
	return b
}

func appendFact(b []byte, f api.Fact) []byte {
	b = appendText(b, f.At)
	b = appendText(b, f.By)
	b = appendText(b, f.Pred)
	return appendList(b, f.Args, appendConst)
}

func appendLiteral(b []byte, l api.Literal) []byte {
	b = appendTerm(b, l.By)
	b = appendText(b, l.Pred)
	b = appendList(b, l.Args, appendTerm)
	return appendTerm(b, l.At)
}

func appendRule(b []byte, r api.Rule) []byte {
	b = appendTerm(b, r.Home)
	b = appendText(b, r.Pred)
	b = appendList(b, r.Args, appendTerm)
	b = appendTerm(b, r.To)
	return appendList(b, r.Body, appendLiteral)
}
