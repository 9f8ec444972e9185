package plan

import (
	"slices"
	"strconv"

	"avowal/api"
	"avowal/match"
)

// reader reads a rule's literals, in the order in which they are looked for. A variable is open till it is known to have one value alone.
type reader struct {
	home      api.Term
	known     map[string]api.Const
	shapes    map[string]*shape
	numbers   map[string]int // of relations, by their shapes and variables
	relations []*relation
	of        []int // by literal: the number of its relation
}

// read reads all literals; false, if me can't be the Home or a literal has no choice.
func read(r api.Rule, me string, first int, f api.Fact, l []api.Fact) (*reader, bool) {
	env, ok := match.Unify(r.Home, api.Const{S: me}, nil)
	if !ok {
		return nil, false
	}
	d := &reader{home: r.Home, known: map[string]api.Const{}, shapes: map[string]*shape{}, numbers: map[string]int{}, of: make([]int, len(r.Body))}
	for _, b := range env {
		d.known[b.Var] = b.Val
	}
	for _, i := range Order(r, first) {
		from := l
		if i == first {
			from = []api.Fact{f}
		}
		if d.of[i], ok = d.literal(r.Body[i], from); !ok {
			return nil, false
		}
		if i == first { // which is ahead of all: another one like it must be of l
			clear(d.shapes)
		}
	}
	return d, true
}

// literal is the number of a literal's relation; false, if it has no choice.
func (d *reader) literal(x api.Literal, l []api.Fact) (int, bool) {
	form, open := d.form(x)
	s := d.shapes[form]
	if s == nil {
		s = newShape(d.home, x, d.env(x), l)
		d.shapes[form] = s
	}
	if len(s.choices) == 0 {
		return 0, false
	}
	name := []byte(form)
	for _, v := range open {
		name = appendText(name, v)
	}
	n, was := d.numbers[string(name)]
	if !was {
		n = len(d.relations)
		d.numbers[string(name)] = n
		d.relations = append(d.relations, &relation{shape: s, open: open})
	}
	if len(s.choices) == 1 { // it is in all bodies, so that what it binds leaves the later literals fewer choices
		for k, v := range open {
			d.known[v] = s.choices[0].binds[k].Val
		}
	}
	return n, true
}

// terms are those of a literal, as they are bound one behind the other.
func (d *reader) terms(x api.Literal) []api.Term {
	at := x.At
	if at == (api.Term{}) {
		at = d.home
	}
	return append([]api.Term{at, x.By}, x.Args...)
}

// env is what is known of a literal's variables.
func (d *reader) env(x api.Literal) []api.Bind {
	var env []api.Bind
	for _, t := range d.terms(x) {
		if c, is := d.known[t.Var]; is {
			env = append(env, api.Bind{Var: t.Var, Val: c})
		}
	}
	return env
}

// form is a text that literals of one shape share, and no others, and the literal's open variables.
func (d *reader) form(x api.Literal) (string, []string) {
	var open []string
	b := appendText(nil, x.Pred)
	for _, t := range d.terms(x) {
		c, is := d.known[t.Var]
		switch {
		case t == api.Term{}:
			b = append(b, 'n')
		case t.Var == "":
			b = appendConst(b, t.Val)
		case is:
			b = appendConst(b, c)
		default:
			k := slices.Index(open, t.Var)
			if k < 0 {
				k = len(open)
				open = append(open, t.Var)
			}
			b = append(strconv.AppendInt(append(b, 'v'), int64(k), 10), ' ')
		}
	}
	return string(b), open
}

// appendText puts a text behind others, with its length, so that each list of texts is told in a way of its own.
func appendText(b []byte, s string) []byte {
	b = strconv.AppendInt(b, int64(len(s)), 10)
	return append(append(b, ' '), s...)
}

func appendConst(b []byte, c api.Const) []byte {
	b = strconv.AppendBool(append(b, 'c'), c.Num)
	b = strconv.AppendInt(append(b, ' '), int64(c.N), 10)
	return appendText(append(b, ' '), c.S)
}

// body are the facts of choices, one a literal, each with Args of its own.
func (d *reader) body(numbers []int32) []api.Fact {
	l := make([]api.Fact, len(numbers))
	for i, n := range numbers {
		l[i] = d.relations[d.of[i]].shape.choices[n].fact
		l[i].Args = slices.Clone(l[i].Args)
	}
	return l
}
