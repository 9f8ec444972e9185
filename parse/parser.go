package parse

import "avowal/api"

// parser goes over a text's tokens from the left on.
type parser struct {
	rest []api.Token // those that are still to be read
	end  int         // the text's length
}

// fault is what a parser that can't go on panics with: the place and the error.
type fault struct {
	at int
	e  api.Errno
}

// giveUp ends the parsing at the next token, or at the text's end, if there is none.
func (p *parser) giveUp(e api.Errno) {
	place := p.end
	if len(p.rest) > 0 {
		place = p.rest[0].At
	}
	panic(fault{at: place, e: e})
}

// ahead is the token that so many others stand ahead of; where there is none the zero Token, which is of no kind.
func (p *parser) ahead(n int) api.Token {
	if n < len(p.rest) {
		return p.rest[n]
	}
	return api.Token{}
}

// take reads the next token, which must be one that may stand there.
func (p *parser) take(may func(api.Token) bool) api.Token {
	t := p.ahead(0)
	if !may(t) {
		p.giveUp(api.ErrParse)
	}
	p.rest = p.rest[1:]
	return t
}

// need reads a token that must be the next one.
func (p *parser) need(kind int, text string) {
	p.take(func(t api.Token) bool { return is(t, kind, text) })
}

// took reads a token, if it is the next one.
func (p *parser) took(kind int, text string) bool {
	if !is(p.ahead(0), kind, text) {
		return false
	}
	p.rest = p.rest[1:]
	return true
}

// allow gives up if there are as many as may be, and one more begins; what may not even begin one is left to whoever reads it.
func (p *parser) allow(many, most int) {
	if many == most && mayBeTerm(p.ahead(0)) {
		p.giveUp(api.ErrMany)
	}
}

// is asks the kind too: a quotation's text may be a sign or a kept word.
func is(t api.Token, kind int, text string) bool {
	return t.Kind == kind && t.Text == text
}
