package plan

import (
	"math"
	"slices"

	"avowal/api"
)

// builder makes what a search goes through. What several relations have alike is made once.
type builder struct {
	search    *search
	constants map[api.Const]int32 // their numbers, as they come
	tuples    map[string]int      // the numbers of several values at once, of which there may be more than constants that are given
	columns   int32               // so many were made
	pools     map[string]*pool
	grids     map[string]*grid
}

// newSearch is a search among relations. What not all columns of a variable have is ruled out.
func newSearch(relations []*relation) *search {
	s := &search{relations: relations, patience: 64, most: math.MaxInt, marks: maxMarks, memory: newMemory(maxMemory)}
	b := &builder{search: s, constants: map[api.Const]int32{}, tuples: map[string]int{}, pools: map[string]*pool{}, grids: map[string]*grid{}}
	b.share()
	s.given = len(s.variables)
	s.order = s.join()
	b.combine()
	for _, x := range s.variables {
		x.weight = int32(len(x.relations))
		x.pool = b.pool(x)
		x.domain = newBag(len(x.pool.values))
	}
	for _, n := range s.relations {
		if len(n.variables) > 0 {
			n.grid = b.grid(n)
			n.rows = newBag(len(n.grid.choices))
		}
	}
	return s
}

// share finds the variables that several relations have.
func (b *builder) share() {
	times := map[string]int{}
	for _, n := range b.search.relations {
		for _, name := range n.open {
			times[name]++
		}
	}
	numbers := map[string]int32{}
	for i, n := range b.search.relations {
		for k, name := range n.open {
			if times[name] < 2 {
				continue
			}
			v, was := numbers[name]
			if !was {
				v = b.variable()
				numbers[name] = v
			}
			b.give(int32(i), v, b.column(n.shape, int32(k)))
		}
	}
}

// combine makes variables that stand for all that a relation shares with the one from which it is reached, so that both are held against each other by all of it at once, not value by value.
func (b *builder) combine() {
	numbers := map[string]int32{}
	for _, i := range b.search.order {
		n := b.search.relations[i]
		if len(n.shared) < 2 {
			continue
		}
		name := string(appendNumbers(nil, n.shared...))
		v, was := numbers[name]
		if !was {
			v = b.variable()
			numbers[name] = v
		}
		b.stand(i, v, n.shared)
		b.stand(n.from, v, n.shared)
	}
}

// stand gives a relation a variable that stands for several, if it does not have it.
func (b *builder) stand(i, v int32, several []int32) {
	n := b.search.relations[i]
	if slices.Contains(n.variables, v) {
		return
	}
	var open []int32
	for _, w := range several {
		open = append(open, n.columns[slices.Index(n.variables, w)].open...)
	}
	b.give(i, v, b.column(n.shape, open...))
}

// variable makes one more, and tells its number.
func (b *builder) variable() int32 {
	b.search.variables = append(b.search.variables, &variable{})
	return int32(len(b.search.variables) - 1)
}

// give gives a relation a variable, which is a column of its shape.
func (b *builder) give(i, v int32, c *column) {
	n, x := b.search.relations[i], b.search.variables[v]
	n.variables = append(n.variables, v)
	n.columns = append(n.columns, c)
	x.relations = append(x.relations, i)
	x.columns = append(x.columns, c)
}

// column is that of one or several open variables of a shape.
func (b *builder) column(s *shape, open ...int32) *column {
	name := string(appendNumbers(nil, open...))
	if s.columns[name] == nil {
		values := make([]int, len(s.choices))
		for i, x := range s.choices {
			values[i] = b.value(x, open)
		}
		s.columns[name] = newColumn(b.columns, open, values)
		b.columns++
	}
	return s.columns[name]
}

// value is the number of what a choice binds some variables to.
func (b *builder) value(x choice, open []int32) int {
	var l []int32
	for _, k := range open {
		l = append(l, numbered(b.constants, x.binds[k].Val))
	}
	if len(l) == 1 {
		return int(l[0])
	}
	return numbered(b.tuples, string(appendNumbers(nil, l...)))
}

// numbered is the number of a key: the next one, if it has none.
func numbered[K comparable, N int32 | int](numbers map[K]N, key K) N {
	n, was := numbers[key]
	if !was {
		n = N(len(numbers))
		numbers[key] = n
	}
	return n
}

// pool is that of a variable.
func (b *builder) pool(x *variable) *pool {
	l := slices.Clone(x.columns)
	slices.SortFunc(l, func(a, c *column) int { return int(a.number) - int(c.number) })
	l = slices.CompactFunc(l, func(a, c *column) bool { return a.number == c.number })
	var name []byte
	for _, c := range l {
		name = appendNumbers(name, c.number)
	}
	p := b.pools[string(name)]
	if p == nil {
		p = common(int32(len(b.pools)), l)
		b.pools[string(name)] = p
	}
	return p
}

// grid is that of a relation.
func (b *builder) grid(n *relation) *grid {
	var name []byte
	var pools []*pool
	for j, v := range n.variables {
		p := b.search.variables[v].pool
		pools = append(pools, p)
		name = appendNumbers(name, n.columns[j].number, p.number)
	}
	g := b.grids[string(name)]
	if g == nil {
		g = newGrid(n.columns, pools)
		b.grids[string(name)] = g
	}
	return g
}

// appendNumbers puts numbers behind others, four bytes each.
func appendNumbers(b []byte, l ...int32) []byte {
	for _, n := range l {
		b = append(b, byte(n), byte(n>>8), byte(n>>16), byte(n>>24))
	}
	return b
}
