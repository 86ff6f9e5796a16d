package sieve_test

import (
	"math"
	"slices"
	"testing"

	"senvy/api"
	"senvy/sieve"
)

// tableCase is a table and what CheckTable has to return.
type tableCase struct {
	name string
	t    api.SieveTable
	err  api.Errno
}

// of returns T with another range at such a place of its bounds.
func of(at int, r api.Range) api.SieveTable {
	t := tableT()
	*bounds(t)[at] = r
	return t
}

func tableCases() []tableCase {
	zero, cell, sum := just(0), to(0, 12), to(0, 48)
	cases := []tableCase{
		{"T", tableT(), api.OK},
		{"U", tableU(), api.OK},
		{"the least one", even(1, 1, zero, zero), api.OK},
		{"the greatest one", even(4, 4, cell, sum), api.OK},
		{"a full one", even(4, 4, just(12), just(48)), api.OK},
		{"more columns than rows", even(1, 4, cell, sum), api.OK},
		{"more rows than columns", even(4, 1, cell, sum), api.OK},

		{"nothing", table(nil, nil), api.ErrMany},
		{"empty lists", table(ranges(), ranges(), ranges()), api.ErrMany},
		{"no row", table(nil, ranges(0, 0)), api.ErrMany},
		{"no column", table(ranges(0, 0), nil, nil), api.ErrMany},
		{"five rows", even(5, 1, cell, sum), api.ErrMany},
		{"five columns", even(1, 5, cell, sum), api.ErrMany},
		{"hundred of both", even(100, 100, cell, sum), api.ErrMany},

		{"no cells", table(ranges(0, 0), ranges(0, 0)), api.ErrEqual},
		{"a list of cells too few", table(ranges(0, 0, 0, 0), ranges(0, 0), ranges(0, 0)), api.ErrEqual},
		{"a list of cells too many", table(ranges(0, 0), ranges(0, 0), ranges(0, 0), ranges(0, 0)), api.ErrEqual},
		{"an empty list too many", table(ranges(0, 0), ranges(0, 0), ranges(0, 0), nil), api.ErrEqual},
		{"a cell too few", table(ranges(0, 0, 0, 0), ranges(0, 0), ranges(0, 0), nil), api.ErrEqual},
		{"a cell too many", table(ranges(0, 0, 0, 0), ranges(0, 0), ranges(0, 0, 0, 0), ranges(0, 0)), api.ErrEqual},
		{"cells as if turned", table(ranges(0, 0, 0, 0), ranges(0, 0), ranges(0, 0, 0, 0)), api.ErrEqual},

		// Several errors at once.
		{"too few before all others", table(nil, ranges(1, 0), ranges(1, 0)), api.ErrMany},
		{"too many before all others", table(ranges(0, 0, 0, 0, 0, 0, 0, 0, -1, 0), ranges(0, 49), ranges(0, 13)), api.ErrMany},
		{"too many columns before all others", table(ranges(0, -1), ranges(0, 0, 0, 0, 0, 0, 0, 0, 0, 0), nil, nil), api.ErrMany},
		{"not equal before a row", table(ranges(1, 0), ranges(0, 0)), api.ErrEqual},
		{"not equal before a column", table(ranges(0, 0), ranges(0, 49), ranges(0, 0), nil), api.ErrEqual},
		{"not equal before a cell", table(ranges(0, 0, 0, 0), ranges(0, 0), ranges(0, 13), nil), api.ErrEqual},
	}
	for at := range bounds(tableT()) {
		most := limit(tableT(), at)
		for _, r := range ranges(0, 0, most, most, 0, most) {
			cases = append(cases, tableCase{"a good range", of(at, r), api.OK})
		}
		for _, r := range ranges(-1, 0, -1, -1, 0, most+1, most+1, most+1, 1, 0, most, 0, math.MinInt64, 0, 0, math.MaxInt64, math.MinInt64, math.MaxInt64, math.MaxInt64, math.MinInt64) {
			cases = append(cases, tableCase{"a bad range", of(at, r), api.ErrRange})
		}
	}
	return cases
}

// TestCheckTable is P4.1.
func TestCheckTable(t *testing.T) {
	for _, c := range tableCases() {
		if err := sieve.CheckTable(c.t); err != c.err {
			t.Errorf("%s: %v: %v, not %v", c.name, c.t, err, c.err)
		}
	}
}

// call is what a function returned: whether it told something, and its error.
type call struct {
	name string
	some bool
	err  api.Errno
}

// calls calls all functions but CheckTable.
func calls(t api.SieveTable, n [][]int64, p api.SieveProof, row, column int) []call {
	some := func(r api.Range) bool { return r != just(0) }
	out := []call{{"CheckTruth", false, sieve.CheckTruth(t, n)}}
	truth, err := sieve.Truth(t)
	out = append(out, call{"Truth", len(truth) > 0, err})
	short, err := sieve.CheckProof(t, p)
	out = append(out, call{"CheckProof", short != 0, err})
	q, err := sieve.Proof(t)
	out = append(out, call{"Proof", len(q.Rows)+len(q.Columns)+q.Side > 0, err})
	r, err := sieve.Cell(t, row, column)
	out = append(out, call{"Cell", some(r), err})
	r, err = sieve.Row(t, row)
	out = append(out, call{"Row", some(r), err})
	r, err = sieve.All(t)
	out = append(out, call{"All", some(r), err})
	narrow, err := sieve.Narrow(t)
	out = append(out, call{"Narrow", !isZero(narrow), err})
	when, err := sieve.More(t, 0)
	return append(out, call{"More", len(when) > 0, err})
}

// TestTableFirst checks that the error of the table comes before all others, and that nothing is told with it.
func TestTableFirst(t *testing.T) {
	for _, c := range tableCases() {
		if c.err == api.OK {
			continue
		}
		for _, i := range indices(-1, 0, 9) {
			for _, p := range []api.SieveProof{proof(nil, nil, 0), proof(indices(i), indices(i), 1), proof(nil, nil, 2)} {
				for _, n := range [][][]int64{nil, {{-1}}, {{1, 2}, {1, 4}}, make([][]int64, len(c.t.Rows))} {
					for _, got := range calls(c.t, n, p, i, i) {
						if got.some || got.err != c.err {
							t.Errorf("%s: %s: %v, not %v, or a result beside it", c.name, got.name, got.err, c.err)
						}
					}
				}
			}
		}
	}
}

// TestNoTruth checks what all functions tell of a table without a truth, and that an index that is none is told before.
func TestNoTruth(t *testing.T) {
	for _, u := range []api.SieveTable{tableU(), even(1, 1, just(0), just(1)), even(1, 1, just(1), just(0)), even(1, 2, just(12), just(12))} {
		for _, row := range indices(-1, 0, len(u.Rows)) {
			for _, column := range indices(-1, 0, len(u.Columns)) {
				n := make([][]int64, len(u.Rows))
				for _, got := range calls(u, n, proof(nil, nil, 0), row, column) {
					want := api.ErrSieve
					switch {
					case got.name == "Proof":
						want = api.OK
					case got.name == "CheckTruth":
						want = api.ErrEqual
					case got.name == "CheckProof":
						want = api.ErrSum
					case got.name == "Row" && row != 0, got.name == "Cell" && (row != 0 || column != 0):
						want = api.ErrArg
					}
					if got.err != want || got.some != (want == api.OK) {
						t.Error(u, row, column, got, want)
					}
				}
			}
		}
	}
}

// TestCheckTruth is P4.2.
func TestCheckTruth(t *testing.T) {
	for i, c := range []struct {
		t   api.SieveTable
		n   [][]int64
		err api.Errno
	}{
		{tableT(), lists(numbers(1, 2), numbers(1, 4)), api.OK},
		{tableT(), lists(numbers(2, 1), numbers(0, 5)), api.OK},
		{tableT(), lists(numbers(3, 1), numbers(0, 5)), api.OK},
		{tableT(), lists(numbers(1, 2), numbers(2, 3)), api.OK},
		{even(1, 1, just(0), just(0)), lists(numbers(0)), api.OK},
		{even(4, 4, to(0, 12), to(0, 48)), slices.Repeat(lists(numbers(12, 12, 12, 12)), 4), api.OK},

		// The sum of one row or column is too little, or too much.
		{tableT(), lists(numbers(1, 1), numbers(1, 4)), api.ErrSieve},
		{tableT(), lists(numbers(3, 2), numbers(0, 4)), api.ErrSieve},
		{tableT(), lists(numbers(2, 2), numbers(0, 4)), api.ErrSieve},
		{tableT(), lists(numbers(1, 2), numbers(2, 5)), api.ErrSieve},
		{tableT(), lists(numbers(1, 2), numbers(0, 5)), api.ErrSieve},
		{tableT(), lists(numbers(3, 1), numbers(1, 4)), api.ErrSieve},
		{tableT(), lists(numbers(2, 1), numbers(1, 4)), api.OK},
		{tableT(), lists(numbers(2, 1), numbers(1, 3)), api.ErrSieve},
		{tableT(), lists(numbers(1, 2), numbers(1, 5)), api.ErrSieve},

		{tableT(), lists(numbers(-1, 2), numbers(1, 4)), api.ErrRange},
		{tableT(), lists(numbers(4, 1), numbers(0, 5)), api.ErrRange},
		{tableT(), lists(numbers(2, 0), numbers(1, 5)), api.ErrRange},
		{tableT(), lists(numbers(1, 2), numbers(5, 4)), api.ErrRange},
		{tableT(), lists(numbers(1, 2), numbers(1, 6)), api.ErrRange},
		{tableT(), lists(numbers(1, 2), numbers(1, 1)), api.ErrRange},
		{tableT(), lists(numbers(1, 2), numbers(math.MinInt64, math.MaxInt64)), api.ErrRange},

		{tableT(), nil, api.ErrEqual},
		{tableT(), lists(), api.ErrEqual},
		{tableT(), lists(numbers(1, 2)), api.ErrEqual},
		{tableT(), lists(numbers(1, 2), nil), api.ErrEqual},
		{tableT(), lists(numbers(1, 2), numbers(1)), api.ErrEqual},
		{tableT(), lists(numbers(1, 2, 0), numbers(1, 4)), api.ErrEqual},
		{tableT(), lists(numbers(1, 2), numbers(1, 4), nil), api.ErrEqual},
		{tableT(), lists(numbers(1, 2), numbers(1, 4), numbers(0, 0)), api.ErrEqual},

		// Several errors at once.
		{tableT(), lists(numbers(-1, 2), numbers(1)), api.ErrEqual},
		{tableT(), lists(numbers(-1, 99)), api.ErrEqual},
		{tableT(), lists(numbers(3, 2), numbers(4, 9)), api.ErrRange},
		{tableT(), lists(numbers(0, 1), numbers(0, -1)), api.ErrRange},
		{tableU(), lists(numbers(1, 2), numbers(9, 4)), api.ErrRange},
	} {
		if err := sieve.CheckTruth(c.t, c.n); err != c.err {
			t.Error(i, c.t, c.n, err, c.err)
		}
	}
}

// TestTruth is P4.2 for tables whose first truths are known.
func TestTruth(t *testing.T) {
	for i, c := range []struct {
		t     api.SieveTable
		truth [][]int64
		err   api.Errno
	}{
		{tableT(), lists(numbers(1, 2), numbers(1, 4)), api.OK},
		{tableU(), nil, api.ErrSieve},
		{even(1, 1, just(0), just(0)), lists(numbers(0)), api.OK},
		{even(1, 1, just(12), just(12)), lists(numbers(12)), api.OK},
		{even(1, 1, just(12), just(11)), nil, api.ErrSieve},
		{even(1, 1, just(11), just(12)), nil, api.ErrSieve},
		{even(3, 3, to(0, 12), just(12)), lists(numbers(0, 0, 12), numbers(0, 12, 0), numbers(12, 0, 0)), api.OK},
		{even(4, 4, to(0, 12), to(0, 48)), slices.Repeat(lists(numbers(0, 0, 0, 0)), 4), api.OK},
		{even(4, 4, to(0, 12), just(48)), slices.Repeat(lists(numbers(12, 12, 12, 12)), 4), api.OK},
		{even(4, 4, to(0, 12), to(1, 48)), lists(numbers(0, 0, 0, 1), numbers(0, 0, 0, 1), numbers(0, 0, 0, 1), numbers(1, 1, 1, 0)), api.OK},
		{even(4, 4, to(0, 11), just(48)), nil, api.ErrSieve},
		{even(1, 2, just(12), just(12)), nil, api.ErrSieve},
	} {
		if truth, err := sieve.Truth(c.t); !sameLists(truth, c.truth) || err != c.err {
			t.Error(i, c.t, truth, err)
		}
	}
}

// TestCheckProof is P4.3.
func TestCheckProof(t *testing.T) {
	one := table(ranges(2, 3), ranges(0, 9, 0, 9), ranges(2, 5, 2, 5))
	for i, c := range []struct {
		t     api.SieveTable
		p     api.SieveProof
		short int64
		err   api.Errno
	}{
		{tableU(), proof(indices(1), indices(1), 0), 1, api.OK},
		{tableU(), proof(indices(0, 1), indices(0, 1), 0), 1, api.OK},
		{one, proof(indices(0), nil, 0), 1, api.OK},
		{one, proof(nil, indices(0, 1), 1), 0, api.ErrSum},
		{turned(one), proof(nil, indices(0), 1), 1, api.OK},
		{turned(one), proof(nil, indices(0), 0), 0, api.ErrSum},
		{even(4, 4, just(12), just(0)), proof(indices(0, 1, 2, 3), nil, 0), 192, api.OK},
		{even(4, 4, just(0), just(48)), proof(nil, indices(0, 1, 2, 3), 0), 192, api.OK},
		{even(4, 4, just(0), just(48)), proof(indices(0, 1, 2, 3), nil, 1), 192, api.OK},

		{tableT(), proof(indices(1), indices(1), 0), 0, api.ErrSum},
		{tableT(), proof(nil, nil, 0), 0, api.ErrSum},
		{tableU(), proof(nil, nil, 0), 0, api.ErrSum},
		{tableU(), proof(indices(), indices(), 1), 0, api.ErrSum},
		{tableU(), proof(indices(1), indices(1), 1), 0, api.ErrSum},
		{tableU(), proof(indices(0), indices(1), 0), 0, api.ErrSum},

		{tableT(), proof(indices(2), nil, 0), 0, api.ErrArg},
		{tableT(), proof(nil, indices(2), 0), 0, api.ErrArg},
		{tableT(), proof(indices(-1), nil, 1), 0, api.ErrArg},
		{tableT(), proof(nil, indices(-1), 1), 0, api.ErrArg},
		{tableT(), proof(indices(math.MaxInt), nil, 1), 0, api.ErrArg},
		{tableT(), proof(nil, indices(math.MinInt), 1), 0, api.ErrArg},
		{one, proof(indices(1), nil, 0), 0, api.ErrArg},
		{turned(one), proof(nil, indices(1), 0), 0, api.ErrArg},
		{tableU(), proof(indices(1, 1), indices(1), 0), 0, api.ErrArg},
		{tableU(), proof(indices(1), indices(1, 1), 0), 0, api.ErrArg},
		{tableU(), proof(indices(1, 0), indices(1), 0), 0, api.ErrArg},
		{tableU(), proof(indices(1), indices(1, 0), 0), 0, api.ErrArg},
		{tableU(), proof(indices(0, 1, 2), indices(1), 0), 0, api.ErrArg},
		{tableU(), proof(indices(1), indices(1), 2), 0, api.ErrArg},
		{tableU(), proof(indices(1), indices(1), -1), 0, api.ErrArg},
		{tableU(), proof(indices(1), indices(1), math.MaxInt), 0, api.ErrArg},
		{tableU(), proof(indices(1), indices(1), math.MinInt), 0, api.ErrArg},

		// Several errors at once: these also prove nothing.
		{tableT(), proof(indices(1, 0), nil, 0), 0, api.ErrArg},
		{tableT(), proof(nil, nil, 2), 0, api.ErrArg},
	} {
		if short, err := sieve.CheckProof(c.t, c.p); short != c.short || err != c.err {
			t.Error(i, c.t, c.p, short, err)
		}
	}
}

// TestProof is P4.3.
func TestProof(t *testing.T) {
	if p, err := sieve.Proof(tableT()); len(p.Rows)+len(p.Columns)+p.Side > 0 || err != api.ErrNone {
		t.Error(p, err)
	}
	for i, c := range []api.SieveTable{
		tableU(),
		// A row, or a column, whose cells alone are too much, or too little.
		table(ranges(0, 3), ranges(0, 9, 0, 9), ranges(2, 5, 2, 5)),
		table(ranges(0, 9, 0, 9), ranges(0, 3), ranges(2, 5), ranges(2, 5)),
		table(ranges(9, 9), ranges(0, 9, 0, 9), ranges(0, 4, 0, 4)),
		table(ranges(0, 9, 0, 9), ranges(9, 9), ranges(0, 4), ranges(0, 4)),
		// Rows that have more, or less, than columns.
		table(ranges(0, 1, 0, 1), ranges(2, 2, 1, 1), ranges(0, 5, 0, 5), ranges(0, 5, 0, 5)),
		table(ranges(2, 2, 1, 1), ranges(0, 1, 0, 1), ranges(0, 5, 0, 5), ranges(0, 5, 0, 5)),
		// Nothing can flow, but something must.
		even(1, 1, to(1, 2), just(0)),
		even(4, 4, just(12), just(0)),
		even(4, 4, just(0), just(48)),
		even(4, 4, just(12), just(47)),
	} {
		p, err := sieve.Proof(c)
		short, bad := sieve.CheckProof(c, p)
		if err != api.OK || bad != api.OK || short < 1 || short != shortBy(c, p) {
			t.Error(i, c, p, err, short, bad)
		}
	}
}

// TestSpans is P4.4 and P4.5 for the table T.
func TestSpans(t *testing.T) {
	for _, c := range []struct {
		row, column int
		want        api.Range
		err         api.Errno
	}{
		{0, 0, to(1, 3), api.OK},
		{0, 1, to(1, 2), api.OK},
		{1, 0, to(0, 2), api.OK},
		{1, 1, to(3, 5), api.OK},
		{0, 2, just(0), api.ErrArg},
		{2, 0, just(0), api.ErrArg},
		{-1, 0, just(0), api.ErrArg},
		{0, -1, just(0), api.ErrArg},
		{math.MaxInt, 0, just(0), api.ErrArg},
		{0, math.MinInt, just(0), api.ErrArg},
	} {
		if got, err := sieve.Cell(tableT(), c.row, c.column); got != c.want || err != c.err {
			t.Error(c, got, err)
		}
	}
	for _, c := range []struct {
		row  int
		want api.Range
		err  api.Errno
	}{
		{0, to(3, 4), api.OK},
		{1, to(5, 6), api.OK},
		{2, just(0), api.ErrArg},
		{-1, just(0), api.ErrArg},
		{math.MaxInt, just(0), api.ErrArg},
		{math.MinInt, just(0), api.ErrArg},
	} {
		if got, err := sieve.Row(tableT(), c.row); got != c.want || err != c.err {
			t.Error(c, got, err)
		}
	}
	if got, err := sieve.All(tableT()); got != to(8, 9) || err != api.OK {
		t.Error(got, err)
	}
	want := table(ranges(3, 4, 5, 6), ranges(2, 3, 5, 6), ranges(1, 3, 1, 2), ranges(0, 2, 3, 5))
	if got, err := sieve.Narrow(tableT()); !sameTable(got, want) || err != api.OK {
		t.Error(got, err)
	}
}

// TestOneSided checks tables with a single row or column, whose indices are not those of the other side.
func TestOneSided(t *testing.T) {
	flat := table(ranges(5, 5), ranges(0, 48, 0, 48, 0, 48), ranges(0, 4, 0, 3, 1, 1))
	cells := ranges(1, 4, 0, 3, 1, 1)
	for i, want := range cells {
		if got, err := sieve.Cell(flat, 0, i); got != want || err != api.OK {
			t.Error(i, got, err)
		}
		if got, err := sieve.Cell(turned(flat), i, 0); got != want || err != api.OK {
			t.Error(i, got, err)
		}
		if got, err := sieve.Row(turned(flat), i); got != want || err != api.OK {
			t.Error(i, got, err)
		}
	}
	if got, err := sieve.Cell(flat, 1, 0); got != just(0) || err != api.ErrArg {
		t.Error(got, err)
	}
	if got, err := sieve.Row(flat, 1); got != just(0) || err != api.ErrArg {
		t.Error(got, err)
	}
	if got, err := sieve.Cell(turned(flat), 0, 1); got != just(0) || err != api.ErrArg {
		t.Error(got, err)
	}
	want := table(ranges(5, 5), cells, cells)
	if got, err := sieve.Narrow(flat); !sameTable(got, want) || err != api.OK {
		t.Error(got, err)
	}
	if got, err := sieve.Narrow(turned(flat)); !sameTable(got, turned(want)) || err != api.OK {
		t.Error(got, err)
	}
	if got, err := sieve.All(flat); got != just(5) || err != api.OK {
		t.Error(got, err)
	}
}

// TestMore is P4.6.
func TestMore(t *testing.T) {
	for _, c := range []struct {
		many int64
		want []int
	}{
		{3, indices(api.SieveMay, api.SieveAlways)},
		{4, indices(api.SieveNever, api.SieveAlways)},
		{5, indices(api.SieveNever, api.SieveMay)},
		{6, indices(api.SieveNever, api.SieveNever)},
		{2, indices(api.SieveAlways, api.SieveAlways)},
		{-1, indices(api.SieveAlways, api.SieveAlways)},
		{math.MinInt64, indices(api.SieveAlways, api.SieveAlways)},
		{49, indices(api.SieveNever, api.SieveNever)},
		{math.MaxInt64, indices(api.SieveNever, api.SieveNever)},
	} {
		if got, err := sieve.More(tableT(), c.many); !slices.Equal(got, c.want) || err != api.OK {
			t.Error(c.many, got, err)
		}
		if got, err := sieve.More(tableU(), c.many); len(got) > 0 || err != api.ErrSieve {
			t.Error(c.many, got, err)
		}
	}
}
