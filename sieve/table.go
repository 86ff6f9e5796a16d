package sieve

import "senvy/api"

// The nodes of a net. Seeds flow from the source through rows, columns and the sink, and from there to the source again.
// What must flow through edges at least is spare where they end, and is wanted where they begin.
const (
	source      = 0
	sink        = 1
	spare       = 2
	want        = 3
	firstRow    = 4
	firstColumn = firstRow + api.MaxSieveSide
	nodes       = firstColumn + api.MaxSieveSide
)

// plenty is more than can ever flow.
const plenty = 1 << 20

// pair is two nodes: from one to another one.
type pair struct {
	from, to int
}

// back returns the same nodes the other way round.
func (p pair) back() pair { return pair{p.to, p.from} }

// edge is two nodes, and how much can flow from the one to the other.
type edge struct {
	pair
	api.Range
}

// table is a valid table, whose rows, columns and cells are the edges of a net: a sum, or a number, is what flows through its edge.
type table struct {
	api.SieveTable
}

func (t table) row(row int) edge {
	return edge{pair{source, firstRow + row}, t.Rows[row]}
}

func (t table) column(column int) edge {
	return edge{pair{firstColumn + column, sink}, t.Columns[column]}
}

func (t table) cell(row, column int) edge {
	return edge{pair{firstRow + row, firstColumn + column}, t.Cells[row][column]}
}

// all returns the edge of all numbers together.
func (t table) all() edge {
	return edge{pair{sink, source}, api.Range{Lo: 0, Hi: plenty}}
}

// cells yields all cells, row by row.
func (t table) cells(yield func(row, column int) bool) {
	for row := range t.Rows {
		for column := range t.Columns {
			if !yield(row, column) {
				return
			}
		}
	}
}

// edges yields all edges.
func (t table) edges(yield func(edge) bool) {
	for row := range t.Rows {
		if !yield(t.row(row)) {
			return
		}
	}
	for column := range t.Columns {
		if !yield(t.column(column)) {
			return
		}
	}
	for row, column := range t.cells {
		if !yield(t.cell(row, column)) {
			return
		}
	}
	yield(t.all())
}

// numbersFit reports whether each number is within its cell.
func (t table) numbersFit(numbers [][]int64) bool {
	for row, column := range t.cells {
		if !within(t.Cells[row][column], numbers[row][column]) {
			return false
		}
	}
	return true
}

// sumsFit reports whether the sum of each row and of each column is within its range.
func (t table) sumsFit(numbers [][]int64) bool {
	var rows, columns [api.MaxSieveSide]int64
	for row, column := range t.cells {
		rows[row] += numbers[row][column]
		columns[column] += numbers[row][column]
	}
	for row, r := range t.Rows {
		if !within(r, rows[row]) {
			return false
		}
	}
	for column, r := range t.Columns {
		if !within(r, columns[column]) {
			return false
		}
	}
	return true
}

// short returns by how much a proof is short: what must flow out of its rows and columns less what can flow into them, or the other way round.
func (t table) short(p api.SieveProof) int64 {
	var named [nodes]bool
	for _, row := range p.Rows {
		named[firstRow+row] = true
	}
	for _, column := range p.Columns {
		named[firstColumn+column] = true
	}
	var sum int64
	for e := range t.edges {
		if named[e.from] == named[e.to] {
			continue
		}
		if named[e.from] == (p.Side == api.SieveColumns) {
			sum += e.Lo
		} else {
			sum -= e.Hi
		}
	}
	return sum
}
