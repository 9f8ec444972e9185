package show

import (
	"strconv"
	"strings"

	"avowal/api"
)

// printer writes what can be shown; it does not ask again whether it can.
type printer struct {
	strings.Builder
}

func (p *printer) rule(r api.Rule) {
	p.term(r.Home)
	p.WriteString(": ")
	p.atom(r.Pred, r.Args)
	p.place(" to ", r.To, "")
	ahead := " :- "
	for _, l := range r.Body {
		p.WriteString(ahead)
		p.literal(l)
		ahead = ", "
	}
	p.WriteByte('.')
}

func (p *printer) literal(l api.Literal) {
	p.place("", l.By, " says ")
	p.atom(l.Pred, l.Args)
	p.place(" at ", l.At, "")
}

// place writes a term and what stands by it, or, if it is none, nothing.
func (p *printer) place(ahead string, t api.Term, behind string) {
	if isNone(t) {
		return
	}
	p.WriteString(ahead)
	p.term(t)
	p.WriteString(behind)
}

func (p *printer) atom(pred string, args []api.Term) {
	p.WriteString(pred)
	p.WriteByte('(')
	ahead := ""
	for _, t := range args {
		p.WriteString(ahead)
		p.term(t)
		ahead = ", "
	}
	p.WriteByte(')')
}

func (p *printer) term(t api.Term) {
	switch {
	case t.Var != "":
		p.WriteString(t.Var)
	case t.Val.Num:
		p.WriteString(strconv.Itoa(t.Val.N))
	case isWord(t.Val.S):
		p.WriteString(t.Val.S)
	default:
		p.WriteString(quoted(t.Val.S))
	}
}
