package plan

import "avowal/api"

// order is one that grows. Known terms are counted as variables become known, so that no literal is looked through again for each that is taken.
type order struct {
	body    []api.Literal
	numbers []int            // of the literals that were taken
	taken   []bool           // whether a literal was
	known   []int            // how many known terms a literal has
	waiting map[string][]int // by a variable that is not known: the literals with it, once for each By and argument
}

// newOrder is the order of which nothing was taken.
func newOrder(r api.Rule) *order {
	o := &order{body: r.Body, taken: make([]bool, len(r.Body)), known: make([]int, len(r.Body)), waiting: map[string][]int{}}
	for i, x := range r.Body {
		o.count(i, x.By)
		o.count(i, x.Args...)
	}
	o.learn(r.Home)
	return o
}

// count counts those of a literal's terms that are constants, and lets its variables wait.
func (o *order) count(i int, l ...api.Term) {
	for _, t := range l {
		switch {
		case t.Var != "":
			o.waiting[t.Var] = append(o.waiting[t.Var], i)
		case t != api.Term{}:
			o.known[i]++
		}
	}
}

// learn makes variables known.
func (o *order) learn(l ...api.Term) {
	for _, t := range l {
		for _, i := range o.waiting[t.Var] {
			o.known[i]++
		}
		delete(o.waiting, t.Var)
	}
}

// take takes a literal: all its variables are known behind it.
func (o *order) take(i int) {
	x := o.body[i]
	o.numbers = append(o.numbers, i)
	o.taken[i] = true
	o.learn(x.By, x.At)
	o.learn(x.Args...)
}

// next is, of the literals that were not taken, the first one that none has more known terms than.
func (o *order) next() int {
	best := -1
literals:
	for i, known := range o.known {
		switch {
		case o.taken[i]:
			continue literals
		case best < 0 || known > o.known[best]:
			best = i
		}
	}
	return best
}
