package book

import (
	"slices"

	"avowal/api"
	"avowal/fact"
)

// ground is Founded on its way. A fact's number is its place among all that there may be.
type ground struct {
	facts []*api.Fact // in order, each once
	there []bool
	waits [][]waiting // the derivations that lack a fact, by its number
}

// waiting is a derivation, of whose body as many facts are there, from the first one on.
type waiting struct {
	deriv *api.Deriv
	there int
}

// Founded tells what follows from some facts, in order.
func (b *Book) Founded(base ...api.Fact) []api.Fact {
	if !b.fromNew() {
		return nil
	}
	facts := b.facts(base)
	g := ground{facts: facts, there: make([]bool, len(facts)), waits: make([][]waiting, len(facts))}
	for i := range base {
		g.come(&base[i])
	}
	var l []waiting
	for k := range b.of.all() {
		l = append(l, waiting{deriv: &k.deriv})
	}
	g.follow(l)
	return g.told()
}

// facts are all that there may be, in order, each once: those of a base and those of all derivations.
func (b *Book) facts(base []api.Fact) (l []*api.Fact) {
	grow := func(f *api.Fact) { // those of a shelf are the same one behind the other
		if len(l) == 0 || fact.Order(*l[len(l)-1], *f) != 0 {
			l = append(l, f)
		}
	}
	for k := range b.of.all() {
		grow(&k.deriv.Head)
	}
	for u := range b.uses.all() {
		grow(u.fact)
	}
	for i := range base {
		grow(&base[i])
	}
	slices.SortFunc(l, func(f, g *api.Fact) int { return fact.Order(*f, *g) })
	return slices.CompactFunc(l, func(f, g *api.Fact) bool { return fact.Order(*f, *g) == 0 })
}

// number is that of a fact.
func (g *ground) number(f *api.Fact) int {
	n, _ := slices.BinarySearchFunc(g.facts, f, func(x, f *api.Fact) int { return fact.Order(*x, *f) })
	return n
}

// come makes a fact be there, and tells what waited for it: nothing, if it was there.
func (g *ground) come(f *api.Fact) []waiting {
	n := g.number(f)
	l := g.waits[n]
	g.there[n], g.waits[n] = true, nil
	return l
}

// follow looks at derivations. One that lacks a fact waits for that one alone and goes on from it, so that no body is looked through again and again.
func (g *ground) follow(l []waiting) {
next:
	for len(l) > 0 {
		w := l[len(l)-1]
		l = l[:len(l)-1]
		for ; w.there < len(w.deriv.Body); w.there++ {
			if n := g.number(&w.deriv.Body[w.there]); !g.there[n] {
				g.waits[n] = append(g.waits[n], w)
				continue next
			}
		}
		l = append(l, g.come(&w.deriv.Head)...)
	}
}

// told is what is there.
func (g *ground) told() (l []api.Fact) {
	for n, f := range g.facts {
		if g.there[n] {
			l = append(l, copyFact(*f))
		}
	}
	return l
}
