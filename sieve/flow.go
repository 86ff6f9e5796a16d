package sieve

import "senvy/api"

// flow is what flows through each cell.
type flow [api.MaxSieveSide][api.MaxSieveSide]int64

// none returns the flow of a net without a truth: in one that has a truth there never flows less than nothing.
func none() flow {
	var f flow
	for row := range f {
		for column := range f[row] {
			f[row][column] = -1
		}
	}
	return f
}

// flow returns what flows through each cell, or none if not all flows that must.
func (n net) flow() flow {
	for node := range nodes {
		if n.room(pair{spare, node}) > 0 {
			return none()
		}
	}
	var f flow
	for row, column := range n.cells {
		f[row][column] = n.amount(n.cell(row, column))
	}
	return f
}

// first returns the first truth of a net that is settled: through each cell flows as little as can, while what flows through those before it stays.
func (n net) first() flow {
	var f flow
	for row, column := range n.cells {
		e := n.cell(row, column)
		n.fill(e.back())
		f[row][column] = n.amount(e)
		n.shut(e.pair)
	}
	return f
}

// lists returns what flows through the cells of a table, row by row.
func (t table) lists(f flow) [][]int64 {
	lists := make([][]int64, len(t.Rows))
	for row := range lists {
		lists[row] = make([]int64, len(t.Columns))
		copy(lists[row], f[row][:])
	}
	return lists
}
