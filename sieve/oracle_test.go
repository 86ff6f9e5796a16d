package sieve_test

import (
	"slices"

	"senvy/api"
)

// everyNumbers calls a function with all numbers that are within the cells of a table, in the order in which truths are compared.
func everyNumbers(t api.SieveTable, visit func(n [][]int64)) {
	n := make([][]int64, len(t.Rows))
	for row := range n {
		n[row] = make([]int64, len(t.Columns))
	}
	var fill func(at int)
	fill = func(at int) {
		if at == len(t.Rows)*len(t.Columns) {
			visit(n)
			return
		}
		row, column := at/len(t.Columns), at%len(t.Columns)
		for i := t.Cells[row][column].Lo; i <= t.Cells[row][column].Hi; i++ {
			n[row][column] = i
			fill(at + 1)
		}
	}
	fill(0)
}

func rowSum(n [][]int64, row int) int64 {
	var sum int64
	for _, i := range n[row] {
		sum += i
	}
	return sum
}

func columnSum(n [][]int64, column int) int64 {
	var sum int64
	for _, list := range n {
		sum += list[column]
	}
	return sum
}

func allSum(n [][]int64) int64 {
	var sum int64
	for row := range n {
		sum += rowSum(n, row)
	}
	return sum
}

func contains(r api.Range, n int64) bool { return inside(just(n), r) }

// isTruth tells whether numbers are a truth.
func isTruth(t api.SieveTable, n [][]int64) bool {
	for row, r := range t.Rows {
		if !contains(r, rowSum(n, row)) {
			return false
		}
	}
	for column, r := range t.Columns {
		if !contains(r, columnSum(n, column)) {
			return false
		}
	}
	for row, cells := range t.Cells {
		for column, r := range cells {
			if !contains(r, n[row][column]) {
				return false
			}
		}
	}
	return true
}

// seen is all different numbers that there were.
type seen map[int64]bool

// span returns the least and the greatest number that was seen, and tells whether each between them was.
func (s seen) span() (api.Range, bool) {
	lo, hi := int64(1<<62), int64(-1<<62)
	for n := range s {
		lo, hi = min(lo, n), max(hi, n)
	}
	return to(lo, hi), int64(len(s)) == hi-lo+1
}

// answer is what trying all numbers finds: how many truths there are, the first one, and what is seen in them.
type answer struct {
	truths        int
	first         [][]int64
	rows, columns []seen
	cells         [][]seen
	all           seen
}

func manySeen(n int) []seen {
	out := make([]seen, n)
	for i := range out {
		out[i] = seen{}
	}
	return out
}

// try tries all numbers.
func try(t api.SieveTable) answer {
	a := answer{rows: manySeen(len(t.Rows)), columns: manySeen(len(t.Columns)), all: seen{}}
	for range t.Rows {
		a.cells = append(a.cells, manySeen(len(t.Columns)))
	}
	everyNumbers(t, func(n [][]int64) {
		if isTruth(t, n) {
			a.add(n)
		}
	})
	return a
}

// add adds a truth.
func (a *answer) add(n [][]int64) {
	if a.truths == 0 {
		a.first = cloneLists(n)
	}
	a.truths++
	a.all[allSum(n)] = true
	for row := range a.rows {
		a.rows[row][rowSum(n, row)] = true
	}
	for column := range a.columns {
		a.columns[column][columnSum(n, column)] = true
	}
	for row, cells := range a.cells {
		for column := range cells {
			cells[column][n[row][column]] = true
		}
	}
}

// shortBy returns by how much a proof is short, straight from the definition.
func shortBy(t api.SieveTable, p api.SieveProof) int64 {
	if p.Side == 1 {
		// The same with rows and columns exchanged.
		return shortBy(turned(t), proof(p.Columns, p.Rows, 0))
	}
	var sum int64
	for _, column := range p.Columns {
		sum += t.Columns[column].Lo
	}
	for _, row := range p.Rows {
		sum -= t.Rows[row].Hi
	}
	for row, cells := range t.Cells {
		for column, cell := range cells {
			inRows, inColumns := slices.Contains(p.Rows, row), slices.Contains(p.Columns, column)
			if inRows && !inColumns {
				sum += cell.Lo
			}
			if inColumns && !inRows {
				sum -= cell.Hi
			}
		}
	}
	return sum
}

// subsets returns all strictly increasing lists of numbers from 0 to n - 1.
func subsets(n int) [][]int {
	if n == 0 {
		return [][]int{nil}
	}
	var out [][]int
	for _, s := range subsets(n - 1) {
		out = append(out, s, append(slices.Clone(s), n-1))
	}
	return out
}

// everyProof calls a function with all proofs, be they right or not, until it returns false.
func everyProof(t api.SieveTable, visit func(p api.SieveProof) bool) {
	for _, rows := range subsets(len(t.Rows)) {
		for _, columns := range subsets(len(t.Columns)) {
			if !visit(proof(rows, columns, 0)) || !visit(proof(rows, columns, 1)) {
				return
			}
		}
	}
}

// canBe tells whether no proof proves that there is no truth.
func canBe(t api.SieveTable) bool {
	can := true
	everyProof(t, func(p api.SieveProof) bool {
		can = shortBy(t, p) <= 0
		return can
	})
	return can
}

// allWithin returns the least and the greatest number of all together, if there is a truth.
//
// Whichever rows and columns one takes: all together are the sums of these columns and of the other rows, and the cells of these rows that are not in these columns, less those of these columns that are not in these rows, which are counted twice.
// So the bounds of these bound all together, and the best of such bounds is met (as the greatest flow meets the least cut).
func allWithin(t api.SieveTable) api.Range {
	out := to(0, 1<<62)
	everyProof(t, func(p api.SieveProof) bool {
		var lo, hi int64
		for row, r := range t.Rows {
			if !slices.Contains(p.Rows, row) {
				lo, hi = lo+r.Lo, hi+r.Hi
			}
		}
		for column, r := range t.Columns {
			if slices.Contains(p.Columns, column) {
				lo, hi = lo+r.Lo, hi+r.Hi
			}
		}
		for row, cells := range t.Cells {
			for column, r := range cells {
				inRows, inColumns := slices.Contains(p.Rows, row), slices.Contains(p.Columns, column)
				if inRows && !inColumns {
					lo, hi = lo+r.Lo, hi+r.Hi
				}
				if !inRows && inColumns {
					lo, hi = lo-r.Hi, hi-r.Lo
				}
			}
		}
		out = to(max(out.Lo, lo), min(out.Hi, hi))
		return true
	})
	return out
}
