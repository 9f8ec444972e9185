package plan

import "slices"

// pool has the values that all of some columns have, in order. Their numbers in it are the values of variables.
type pool struct {
	number int32
	values []int
}

// common is the pool of some columns.
func common(number int32, l []*column) *pool {
	slices.SortStableFunc(l, func(a, b *column) int { return len(a.kinds) - len(b.kinds) })
	p := &pool{number: number, values: slices.Clone(l[0].kinds)}
	for _, c := range l[1:] {
		p.values = slices.DeleteFunc(p.values, func(n int) bool { return len(c.with(n)) == 0 })
	}
	return p
}

// grid has the choices of a shape by which some columns have values of some pools. Relations with the same columns and pools share it.
type grid struct {
	choices []int32   // by row
	values  [][]int32 // by column, by row: the number in the pool
	index   []index   // by column
}

// newGrid looks up the choices by the values of the column whose pool has the fewest.
func newGrid(columns []*column, pools []*pool) *grid {
	g := &grid{values: make([][]int32, len(columns))}
	fewest := 0
	for j, p := range pools {
		if len(p.values) < len(pools[fewest].values) {
			fewest = j
		}
	}
	row := make([]int32, len(columns))
	for _, n := range pools[fewest].values {
		for _, choice := range columns[fewest].with(n) {
			if !within(columns, pools, choice, row) {
				continue
			}
			g.choices = append(g.choices, choice)
			for j, value := range row {
				g.values[j] = append(g.values[j], value)
			}
		}
	}
	for j, p := range pools {
		g.index = append(g.index, newIndex(g.values[j], len(p.values)))
	}
	return g
}

// within tells whether all pools have a choice's values, and puts their numbers there into row.
func within(columns []*column, pools []*pool, choice int32, row []int32) bool {
	for j, p := range pools {
		value, found := slices.BinarySearch(p.values, columns[j].values[choice])
		if !found {
			return false
		}
		row[j] = int32(value)
	}
	return true
}

// index has rows by their values.
type index struct {
	starts []int32 // by value: where its rows begin; and where the last ones end
	rows   []int32
}

func newIndex(values []int32, bound int) index {
	x := index{starts: make([]int32, bound+1), rows: make([]int32, len(values))}
	for _, v := range values {
		x.starts[v+1]++
	}
	for v := range bound {
		x.starts[v+1] += x.starts[v]
	}
	next := slices.Clone(x.starts)
	for row, v := range values {
		x.rows[next[v]] = int32(row)
		next[v]++
	}
	return x
}

// with are the rows that have a value.
func (x index) with(value int32) []int32 { return x.rows[x.starts[value]:x.starts[value+1]] }
