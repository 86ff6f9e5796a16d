package sieve_test

import (
	"slices"
	"testing"

	"senvy/api"
	"senvy/dice"
	"senvy/sieve"
)

func numbers(n ...int64) []int64   { return n }
func lists(l ...[]int64) [][]int64 { return l }
func indices(n ...int) []int       { return n }
func to(lo, hi int64) api.Range    { return api.Range{Lo: lo, Hi: hi} }
func just(n int64) api.Range       { return to(n, n) }

// ranges takes two numbers for each range.
func ranges(n ...int64) []api.Range {
	var out []api.Range
	for i := 0; i < len(n); i += 2 {
		out = append(out, to(n[i], n[i+1]))
	}
	return out
}

func table(rows, columns []api.Range, cells ...[]api.Range) api.SieveTable {
	return api.SieveTable{Rows: rows, Columns: columns, Cells: cells}
}

func proof(rows, columns []int, side int) api.SieveProof {
	return api.SieveProof{Rows: rows, Columns: columns, Side: side}
}

// tableT and tableU are the tables T and U of the chapter.
func tableT() api.SieveTable {
	return table(ranges(3, 4, 5, 6), ranges(2, 3, 5, 6), ranges(0, 3, 1, 2), ranges(0, 4, 2, 5))
}

func tableU() api.SieveTable {
	t := tableT()
	t.Rows[1] = just(2)
	return t
}

// even returns a table of so many rows and columns, all of whose cells and sums are alike.
func even(rows, columns int, cell, sum api.Range) api.SieveTable {
	all := func(n int, r api.Range) []api.Range { return slices.Repeat([]api.Range{r}, n) }
	t := table(all(rows, sum), all(columns, sum))
	for range rows {
		t.Cells = append(t.Cells, all(columns, cell))
	}
	return t
}

func cloneLists[T any](l [][]T) [][]T {
	var out [][]T
	for _, list := range l {
		out = append(out, slices.Clone(list))
	}
	return out
}

// clone returns a table that shares no memory with another one.
func clone(t api.SieveTable) api.SieveTable {
	return table(slices.Clone(t.Rows), slices.Clone(t.Columns), cloneLists(t.Cells)...)
}

// changed returns a table that is changed by a function.
func changed(t api.SieveTable, change func(api.SieveTable)) api.SieveTable {
	t = clone(t)
	change(t)
	return t
}

// turned returns a table whose rows are the columns of another one.
func turned(t api.SieveTable) api.SieveTable {
	out := table(slices.Clone(t.Columns), slices.Clone(t.Rows))
	for column := range t.Columns {
		var cells []api.Range
		for row := range t.Rows {
			cells = append(cells, t.Cells[row][column])
		}
		out.Cells = append(out.Cells, cells)
	}
	return out
}

// bounds returns pointers to all ranges of a table, rows first, cells last.
func bounds(t api.SieveTable) []*api.Range {
	var out []*api.Range
	for _, list := range append([][]api.Range{t.Rows, t.Columns}, t.Cells...) {
		for i := range list {
			out = append(out, &list[i])
		}
	}
	return out
}

// limit returns the greatest number that the range at such a place of bounds can have.
func limit(t api.SieveTable, at int) int64 {
	if at < len(t.Rows)+len(t.Columns) {
		return 48
	}
	return 12
}

// sums returns the sum of the lower ends of ranges, and that of the upper ones.
func sums(all []api.Range) (int64, int64) {
	var lo, hi int64
	for _, r := range all {
		lo, hi = lo+r.Lo, hi+r.Hi
	}
	return lo, hi
}

// near throws a range of which a number is, or to which it is near; how near is said by off.
func near(d *dice.Dice, n, slack, off, limit int64) api.Range {
	n += d.From(-off, off)
	lo := min(max(n-d.From(0, slack), 0), limit)
	return to(lo, max(lo, min(n+d.From(0, slack), limit)))
}

// thrown throws a table whose cells have together at most so many numbers to choose from.
//
// Its sums are near those of numbers that its cells allow. In some tables a few sums are off, so that often there is no truth.
func thrown(d *dice.Dice, choices, widest int64) api.SieveTable {
	t := even(1+d.Below(api.MaxSieveSide), 1+d.Below(api.MaxSieveSide), just(0), just(0))
	base, slack, bad := []int64{0, 0, 4, 9}[d.Below(4)], d.From(0, 3), d.Below(3) > 0
	var n [][]int64
	for _, cells := range t.Cells {
		var list []int64
		for column := range cells {
			wide := d.From(0, min(widest, choices-1))
			choices /= wide + 1
			hi := min(base+wide+d.From(0, 3), api.MaxSieveCell)
			cells[column] = to(max(hi-wide, 0), hi)
			list = append(list, d.From(cells[column].Lo, hi))
		}
		n = append(n, list)
	}
	off := func() int64 {
		if bad && d.Below(4) == 0 {
			return 5
		}
		return 0
	}
	for row := range t.Rows {
		t.Rows[row] = near(d, rowSum(n, row), slack, off(), api.MaxSieveSum)
	}
	for column := range t.Columns {
		t.Columns[column] = near(d, columnSum(n, column), slack, off(), api.MaxSieveSum)
	}
	return t
}

// tables throws so many valid tables, of which some have a truth, and some not.
func tables(t *testing.T, seed dice.Dice, n int, choices, widest int64) []api.SieveTable {
	t.Helper()
	var all []api.SieveTable
	truths := 0
	for range n {
		one := thrown(&seed, choices, widest)
		if err := sieve.CheckTable(one); err != api.OK {
			t.Fatal(one, err)
		}
		if canBe(one) {
			truths++
		}
		all = append(all, one)
	}
	if truths < n/5 || truths > n*4/5 {
		t.Fatalf("of %d tables %d have a truth", n, truths)
	}
	return all
}

// smalls throws tables all of whose truths can be tried, larges others.
func smalls(t *testing.T, seed dice.Dice, n int) []api.SieveTable { return tables(t, seed, n, 2000, 4) }
func larges(t *testing.T, seed dice.Dice, n int) []api.SieveTable {
	return tables(t, seed, n, 1<<62, 9)
}

// told is what Narrow tells of a table, and All.
type told struct {
	api.SieveTable
	all api.Range
}

// spans returns what is told of a table, if it has a truth; it checks that all functions tell the same.
func spans(t *testing.T, of api.SieveTable) (told, bool) {
	t.Helper()
	narrow, err := sieve.Narrow(of)
	all, bad := sieve.All(of)
	if err == api.ErrSieve && bad == err && isZero(narrow) && all == just(0) {
		return told{}, false
	}
	if err != api.OK || bad != api.OK || sieve.CheckTable(narrow) != api.OK || len(narrow.Rows) != len(of.Rows) || len(narrow.Columns) != len(of.Columns) {
		t.Fatal(of, narrow, err, all, bad)
	}
	for row := range of.Rows {
		if r, err := sieve.Row(of, row); r != narrow.Rows[row] || err != api.OK {
			t.Fatal(of, row, r, err)
		}
		for column := range of.Columns {
			if r, err := sieve.Cell(of, row, column); r != narrow.Cells[row][column] || err != api.OK {
				t.Fatal(of, row, column, r, err)
			}
		}
	}
	return told{narrow, all}, true
}

func isZero(t api.SieveTable) bool { return len(t.Rows)+len(t.Columns)+len(t.Cells) == 0 }

// sameLists tells whether two lists of lists are the same.
func sameLists[T comparable](one, two [][]T) bool {
	return slices.EqualFunc(one, two, slices.Equal)
}

// sameTable tells whether two tables are the same.
func sameTable(one, two api.SieveTable) bool {
	return slices.Equal(one.Rows, two.Rows) && slices.Equal(one.Columns, two.Columns) && sameLists(one.Cells, two.Cells)
}

func inside(narrow, wide api.Range) bool { return wide.Lo <= narrow.Lo && narrow.Hi <= wide.Hi }
