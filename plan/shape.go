package plan

import (
	"slices"

	"avowal/api"
	"avowal/fact"
	"avowal/match"
)

// choice is a fact that a literal takes, and what is bound by it.
type choice struct {
	fact  api.Fact
	binds []api.Bind
}

// shape is what literals have in common that differ in the names of their open variables alone: their choices, in order, each once, with what they bind, one behind the other. However many literals have a shape, its facts are kept once.
type shape struct {
	choices []choice
	columns map[string]*column // by the numbers of open variables
}

// newShape is that of a literal, by the facts that it takes with no more bound than env.
func newShape(home api.Term, x api.Literal, env []api.Bind, l []api.Fact) *shape {
	s := &shape{columns: map[string]*column{}}
	for _, f := range l {
		if bound, ok := match.Literal(home, x, f, env); ok {
			s.choices = append(s.choices, choice{fact: f, binds: bound[len(env):]})
		}
	}
	order := func(a, b choice) int { return fact.Order(a.fact, b.fact) }
	slices.SortFunc(s.choices, order)
	s.choices = slices.CompactFunc(s.choices, func(a, b choice) bool { return order(a, b) == 0 })
	return s
}

// column has a value by each of a shape's choices: of one open variable, or of several at once.
type column struct {
	number int32
	open   []int32 // the variables, as they are bound one behind the other
	values []int   // by choice
	kinds  []int   // the values, in order, each once
	starts []int32 // by kind: where its choices begin in sorted; and where the last ones end
	sorted []int32 // the choices, by value
}

func newColumn(number int32, open []int32, values []int) *column {
	c := &column{number: number, open: open, values: values, sorted: make([]int32, len(values))}
	for i := range c.sorted {
		c.sorted[i] = int32(i)
	}
	slices.SortStableFunc(c.sorted, func(a, b int32) int { return values[a] - values[b] })
	for i, x := range c.sorted {
		if i == 0 || values[x] != values[c.sorted[i-1]] {
			c.kinds = append(c.kinds, values[x])
			c.starts = append(c.starts, int32(i))
		}
	}
	c.starts = append(c.starts, int32(len(c.sorted)))
	return c
}

// with are the choices that have a value.
func (c *column) with(value int) []int32 {
	i, found := slices.BinarySearch(c.kinds, value)
	if !found {
		return nil
	}
	return c.sorted[c.starts[i]:c.starts[i+1]]
}
