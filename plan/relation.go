package plan

// relation is what literals with one shape and the same variables may be.
type relation struct {
	shape     *shape
	open      []string
	variables []int32   // those that other relations have too; behind them those that stand for several. Others are not looked at: any row does
	columns   []*column // by variable
	grid      *grid
	rows      bag     // those of the grid that may still be
	from      int32   // the number of the relation from which it is reached
	shared    []int32 // the variables that it shares with that one
	seen      bool    // whether it is in a part already
	waits     bool    // whether it is to be looked at
}

// many is how many choices a relation has still.
func (n *relation) many() int32 {
	if len(n.variables) == 0 {
		return int32(len(n.shape.choices))
	}
	return n.rows.many
}

// choice is the number of one of them.
func (n *relation) choice(i int32) int32 {
	if len(n.variables) == 0 {
		return i
	}
	return n.grid.choices[n.rows.list[i]]
}

// variable is one of several relations, or stands for several such variables.
type variable struct {
	relations []int32
	columns   []*column // by relation
	pool      *pool
	domain    bag   // the values of the pool that it may still have
	lost      bool  // whether it lost a value since all was settled
	whole     int32 // how many these were when the search began
	weight    int32 // how many relations have it, and how often one of them came to nothing
	rank      int   // its place where the search goes steadily
	seen      bool  // whether it is in a part already
}
