package pot_test

import (
	"math"
	"slices"
	"testing"

	"senvy/api"
	"senvy/pot"
)

// rowCase is a row and what CheckRow has to return.
type rowCase struct {
	name string
	row  api.PotRow
	err  api.Errno
}

func rowCases() []rowCase {
	many := slices.Repeat([]int64{0, 0}, api.MaxPotLots+1)
	return append([]rowCase{
		{"R", rowR(), api.OK},
		{"S", rowS(), api.OK},
		{"one pot alone", row(1, nil), api.OK},
		{"one pot in all", row(1, indices(0), 0, 0), api.OK},
		{"the largest one", largest(), api.OK},
		{"the last pot", row(40, indices(39), 39, 39), api.OK},
		{"the same lots", row(5, indices(2), 1, 3, 1, 3), api.OK},
		{"a weak pot without a lot", row(5, indices(4), 1, 3), api.OK},

		{"no pots", row(0, nil), api.ErrRange},
		{"nothing at all", api.PotRow{}, api.ErrRange},
		{"fewer than no pots", row(-1, nil), api.ErrRange},
		{"a pot too many", row(41, nil), api.ErrRange},
		{"far too few pots", row(math.MinInt, nil), api.ErrRange},
		{"far too many pots", row(math.MaxInt, nil), api.ErrRange},
		{"a lot too many", row(5, nil, many...), api.ErrMany},
		{"a weak pot too many", row(40, upTo(13)), api.ErrMany},
		{"many weak pots", row(40, upTo(1000)), api.ErrMany},
		{"equal weak pots", row(5, indices(3, 3)), api.ErrRule},
		{"falling weak pots", row(5, indices(1, 3, 2, 4)), api.ErrRule},
		{"falling at the end", row(5, indices(1, 2, 3, 0)), api.ErrRule},
	}, slices.Concat(badElements(), manyErrors())...)
}

// badElements returns rows of which one lot or one weak pot is not as it can be.
func badElements() []rowCase {
	var cases []rowCase
	for _, ends := range [][]int64{
		{3, 2}, {-1, 2}, {2, 20}, {-2, -1}, {20, 20}, {20, 3}, {19, 0}, {3, -1},
		{math.MinInt64, 2}, {2, math.MaxInt64}, {math.MinInt64, math.MaxInt64}, {math.MaxInt64, math.MinInt64},
	} {
		for lot := range rowR().Lots {
			r := rowR()
			r.Lots[lot] = api.Range{Lo: ends[0], Hi: ends[1]}
			cases = append(cases, rowCase{"a bad lot among good ones", r, api.ErrRange})
		}
	}
	for _, p := range indices(-1, 20, 40, math.MinInt, math.MaxInt) {
		for i := range rowR().Weak {
			r := rowR()
			r.Weak[i] = p
			cases = append(cases, rowCase{"a bad weak pot among good ones", r, api.ErrRange})
		}
	}
	return cases
}

// manyErrors returns rows with several errors.
func manyErrors() []rowCase {
	bad := slices.Repeat([]int64{3, 2}, api.MaxPotLots+1)
	return []rowCase{
		{"pots before lots", row(0, nil, bad...), api.ErrRange},
		{"pots before weak pots", row(41, make([]int, 13)), api.ErrRange},
		{"too many lots before bad ones", row(5, nil, bad...), api.ErrMany},
		{"too many lots before a bad weak pot", row(5, indices(7, 7), bad...), api.ErrMany},
		{"too many weak pots before a bad lot", row(5, make([]int, 13), 3, 2), api.ErrMany},
		{"too many weak pots before bad ones", row(5, slices.Repeat(indices(9), 13)), api.ErrMany},
		{"a bad lot before falling weak pots", row(5, indices(3, 2), 0, 5), api.ErrRange},
		{"a bad weak pot before falling ones", row(5, indices(3, 2, 5)), api.ErrRange},
		{"a bad weak pot after equal ones", row(5, indices(3, 3, -1)), api.ErrRange},
	}
}

// TestCheckRow is P6.1.
func TestCheckRow(t *testing.T) {
	for _, c := range rowCases() {
		if err := pot.CheckRow(c.row); err != c.err {
			t.Errorf("%s: %v: %v, not %v", c.name, c.row, err, c.err)
		}
	}
}

// call is what a function returned: whether it told something, and its error.
type call struct {
	name string
	some bool
	err  api.Errno
}

// calls calls all functions with a row but CheckRow.
func calls(r api.PotRow, list []int, p int) []call {
	n, err := pot.CheckLots(r, list)
	out := []call{{"CheckLots", n != 0, err}}
	n, err = pot.Least(r)
	out = append(out, call{"Least", n != 0, err})
	l, err := pot.Lots(r)
	out = append(out, call{"Lots", len(l) > 0, err})
	n, err = pot.CheckPrices(r, list)
	out = append(out, call{"CheckPrices", n != 0, err})
	l, err = pot.Prices(r)
	out = append(out, call{"Prices", len(l) > 0, err})
	l, err = pot.Unknown(r)
	out = append(out, call{"Unknown", len(l) > 0, err})
	l, err = pot.Fewest(r)
	out = append(out, call{"Fewest", len(l) > 0, err})
	out = append(out, call{"CheckApart", false, pot.CheckApart(r, list)})
	l, err = pot.Apart(r)
	out = append(out, call{"Apart", len(l) > 0, err})
	l, err = pot.Blame(r)
	out = append(out, call{"Blame", len(l) > 0, err})
	l, err = pot.Fellows(r, p)
	return append(out, call{"Fellows", len(l) > 0, err})
}

// TestRowFirst checks that the error of the row comes before all others, and that nothing is told with it.
func TestRowFirst(t *testing.T) {
	for _, c := range rowCases() {
		if c.err == api.OK {
			continue
		}
		for _, list := range [][]int{nil, indices(0), indices(0, 2), indices(-1), indices(2, 1), indices(99), make([]int, 50), make([]int, len(c.row.Weak))} {
			for _, p := range indices(-1, 0, 3, 40) {
				for _, got := range calls(c.row, list, p) {
					if got.some || got.err != c.err {
						t.Errorf("%s: %s: %v, not %v, or a result beside it", c.name, got.name, got.err, c.err)
					}
				}
			}
		}
	}
}

// TestCheckLots is P6.2.
func TestCheckLots(t *testing.T) {
	for i, c := range []struct {
		row  api.PotRow
		lots []int
		back int
		err  api.Errno
	}{
		{rowR(), indices(0, 2), 16, api.OK},
		{rowR(), indices(0, 1, 3), 19, api.OK},
		{rowR(), indices(0, 2, 3), 22, api.OK},
		{rowR(), upTo(5), 29, api.OK},
		{row(1, indices(0), 0, 0), indices(0), 1, api.OK},
		{row(9, nil, 2, 4, 3, 8), nil, 0, api.OK},
		{row(9, nil, 2, 4, 3, 8), indices(0, 1), 9, api.OK},
		{row(9, indices(5), 2, 7, 2, 7), indices(0, 1), 12, api.OK},
		{largest(), indices(0), 40, api.OK},
		{largest(), upTo(10), 103, api.OK},

		{rowR(), nil, 0, api.ErrPot},
		{rowR(), indices(0, 1), 0, api.ErrPot},
		{rowR(), indices(2, 3), 0, api.ErrPot},
		{rowR(), indices(0, 3, 4), 0, api.ErrPot},
		{rowS(), indices(0, 1), 0, api.ErrPot},
		{row(9, indices(5)), nil, 0, api.ErrPot},
		{row(9, indices(5), 6, 8, 0, 4), indices(0, 1), 0, api.ErrPot},

		{rowR(), indices(2, 0), 0, api.ErrArg},
		{rowR(), indices(0, 2, 2), 0, api.ErrArg},
		{rowR(), indices(0, 2, 1), 0, api.ErrArg},
		{rowR(), indices(0, 2, 5), 0, api.ErrArg},
		{rowR(), indices(-1, 0, 2), 0, api.ErrArg},
		{rowR(), indices(math.MinInt, 0, 2), 0, api.ErrArg},
		{rowR(), indices(0, 2, math.MaxInt), 0, api.ErrArg},
		{rowR(), upTo(1000), 0, api.ErrArg},
		{row(9, nil), indices(0), 0, api.ErrArg},

		// Several errors at once: lists that are wrong, and explain nothing.
		{rowR(), indices(5), 0, api.ErrArg},
		{rowR(), indices(1, 1), 0, api.ErrArg},
		{rowS(), indices(1, 0), 0, api.ErrArg},
		{rowS(), indices(-1), 0, api.ErrArg},
	} {
		if n, err := pot.CheckLots(c.row, c.lots); n != c.back || err != c.err {
			t.Error(i, c.row, c.lots, n, err)
		}
	}
}

// TestCheckPrices is P6.4 for CheckPrices.
func TestCheckPrices(t *testing.T) {
	long := row(40, indices(0, 39), 0, 39)
	for i, c := range []struct {
		row    api.PotRow
		prices []int
		sum    int
		err    api.Errno
	}{
		{rowR(), indices(8, 0, 5, 3), 16, api.OK},
		{rowR(), indices(8, 0, 2, 6), 16, api.OK},
		{rowR(), indices(4, 4, 1, 6), 15, api.OK},
		{rowR(), indices(3, 5, 0, 6), 14, api.OK},
		{rowR(), make([]int, 4), 0, api.OK},
		{row(9, nil, 2, 4), nil, 0, api.OK},
		{row(9, nil), nil, 0, api.OK},
		// A weak pot that no lot has can cost as much as a price can be.
		{rowS(), indices(8, 0, 5, 40), 53, api.OK},
		{row(9, indices(1, 2, 3)), indices(40, 40, 40), 120, api.OK},
		{long, indices(40, 0), 40, api.OK},
		{long, indices(13, 27), 40, api.OK},

		{rowR(), indices(8, 0, 0, 8), 0, api.ErrSum},
		{rowR(), indices(9, 0, 0, 0), 0, api.ErrSum},
		{rowR(), indices(8, 1, 0, 0), 0, api.ErrSum},
		{rowR(), indices(0, 3, 3, 0), 0, api.ErrSum},
		{rowR(), indices(0, 0, 3, 6), 0, api.ErrSum},
		{rowR(), indices(0, 0, 0, 40), 0, api.ErrSum},
		{rowS(), indices(8, 0, 6, 0), 0, api.ErrSum},
		{long, indices(40, 1), 0, api.ErrSum},

		{rowR(), indices(8, 0, 0), 0, api.ErrEqual},
		{rowR(), indices(8, 0, 5, 3, 0), 0, api.ErrEqual},
		{rowR(), nil, 0, api.ErrEqual},
		{rowR(), make([]int, 20), 0, api.ErrEqual},
		{row(9, nil, 2, 4), indices(0), 0, api.ErrEqual},

		{rowR(), indices(-1, 0, 0, 0), 0, api.ErrRange},
		{rowR(), indices(0, 0, 0, -1), 0, api.ErrRange},
		{rowS(), indices(0, 0, 0, 41), 0, api.ErrRange},
		{rowS(), indices(0, 0, 0, math.MaxInt), 0, api.ErrRange},
		{rowS(), indices(0, 0, 0, math.MinInt), 0, api.ErrRange},

		// Several errors at once.
		{rowR(), indices(-1, 9), 0, api.ErrEqual},
		{rowR(), indices(9, 9, 9, 9, 9), 0, api.ErrEqual},
		{rowR(), indices(9, 0, 0, 41), 0, api.ErrRange},
		{rowR(), indices(9, 9, 9, -1), 0, api.ErrRange},
	} {
		if n, err := pot.CheckPrices(c.row, c.prices); n != c.sum || err != c.err {
			t.Error(i, c.row, c.prices, n, err)
		}
	}
}

// TestKnownRows is P6.3, P6.5, P6.6 and P6.7 for rows of which the answers are known.
func TestKnownRows(t *testing.T) {
	for i, c := range []struct {
		row     api.PotRow
		least   int
		lots    []int
		fewest  int
		apart   []int
		blame   []int
		unknown []int
	}{
		{rowR(), 16, indices(0, 2), 2, indices(3, 9), indices(2, 0, 2, 0, 0), nil},
		{rowS(), 0, nil, 0, indices(3, 9, 15), nil, indices(15)},
		{row(1, nil), 0, nil, 0, nil, nil, nil},
		{row(1, indices(0), 0, 0), 1, indices(0), 1, indices(0), indices(2), nil},
		{row(9, nil, 0, 8, 3, 3), 0, nil, 0, nil, indices(0, 0), nil},
		{row(9, indices(0, 4, 8)), 0, nil, 0, indices(0, 4, 8), nil, indices(0, 4, 8)},
		{row(9, indices(0, 4, 8), 0, 3, 5, 8), 0, nil, 0, indices(0, 4, 8), nil, indices(4)},
		// All weak pots are had by one lot, which is larger than two others.
		{row(9, indices(1, 7), 0, 8, 1, 1, 7, 7), 2, indices(1, 2), 1, indices(1), indices(0, 2, 2), nil},
		// It is just as large: of the lists 1 2, and 0, the last one comes first.
		{row(9, indices(1, 7), 1, 7, 0, 2, 5, 8), 7, indices(0), 1, indices(1), indices(1, 1, 1), nil},
		// Here the list of two lots comes first.
		{row(9, indices(1, 7), 0, 2, 1, 7, 5, 8), 7, indices(0, 2), 1, indices(1), indices(1, 1, 1), nil},
		// The first lot of the first list has the last weak pot.
		{row(9, indices(1, 4, 7), 7, 8, 4, 5, 4, 5, 0, 1, 0, 1), 6, indices(0, 1, 3), 3, indices(1, 4, 7), indices(2, 1, 1, 1, 1), nil},
		// Lots overlap: what two have counts twice.
		{row(12, indices(2, 5, 8), 0, 5, 5, 11, 2, 8), 7, indices(2), 1, indices(2), indices(0, 0, 2), nil},
		{row(12, indices(0, 5, 11), 0, 5, 5, 11), 13, indices(0, 1), 2, indices(0, 11), indices(2, 2), nil},
		{largest(), 12, indices(1, 2, 4, 5, 7), 1, indices(0), indices(0, 2, 2, 0, 2, 2, 0, 2, 0, 0), nil},
	} {
		err := api.OK
		if len(c.unknown) > 0 {
			err = api.ErrPot
		}
		if n, got := pot.Least(c.row); n != c.least || got != err {
			t.Error(i, n, got)
		}
		if lots, got := pot.Lots(c.row); !slices.Equal(lots, c.lots) || got != err {
			t.Error(i, lots, got)
		}
		if lots, got := pot.Fewest(c.row); len(lots) != c.fewest || got != err || got == api.OK && !explains(c.row, lots) {
			t.Error(i, lots, got)
		}
		if pots, got := pot.Apart(c.row); !slices.Equal(pots, c.apart) || got != api.OK {
			t.Error(i, pots, got)
		}
		if when, got := pot.Blame(c.row); !slices.Equal(when, c.blame) || got != err {
			t.Error(i, when, got)
		}
		if pots, got := pot.Unknown(c.row); !slices.Equal(pots, c.unknown) || got != api.OK {
			t.Error(i, pots, got)
		}
		prices, got := pot.Prices(c.row)
		if got != err || got != api.OK && len(prices) > 0 {
			t.Error(i, prices, got)
		}
		if sum, wrong := pot.CheckPrices(c.row, prices); got == api.OK && (sum != c.least || wrong != api.OK) {
			t.Error(i, prices, sum, wrong)
		}
	}
}

// TestCheckApart is P6.6 for CheckApart.
func TestCheckApart(t *testing.T) {
	for i, c := range []struct {
		row  api.PotRow
		pots []int
		err  api.Errno
	}{
		{rowR(), indices(3, 9), api.OK},
		{rowR(), indices(3, 15), api.OK},
		{rowR(), indices(6, 15), api.OK},
		{rowR(), indices(9), api.OK},
		{rowR(), nil, api.OK},
		{rowS(), indices(3, 9, 15), api.OK},
		{row(9, indices(0, 4, 8)), indices(0, 4, 8), api.OK},
		{row(9, nil), nil, api.OK},

		{rowR(), indices(3, 6), api.ErrRule},
		{rowR(), indices(6, 9), api.ErrRule},
		{rowR(), indices(9, 15), api.ErrRule},
		{rowR(), indices(3, 6, 15), api.ErrRule},
		{rowR(), indices(3, 9, 15), api.ErrRule},
		{rowR(), rowR().Weak, api.ErrRule},
		{rowS(), indices(3, 6, 15), api.ErrRule},

		{rowR(), indices(4), api.ErrArg},
		{rowR(), indices(3, 4), api.ErrArg},
		{rowR(), indices(9, 3), api.ErrArg},
		{rowR(), indices(3, 3), api.ErrArg},
		{rowR(), indices(20), api.ErrArg},
		{rowR(), indices(-1, 3), api.ErrArg},
		{rowR(), indices(3, math.MaxInt), api.ErrArg},
		{rowR(), indices(math.MinInt, 3), api.ErrArg},
		{rowR(), upTo(1000), api.ErrArg},
		{row(9, nil), indices(0), api.ErrArg},

		// Several errors at once.
		{rowR(), indices(3, 6, 7), api.ErrArg},
		{rowR(), indices(3, 6, 3), api.ErrArg},
		{rowR(), indices(6, 3), api.ErrArg},
	} {
		if err := pot.CheckApart(c.row, c.pots); err != c.err {
			t.Error(i, c.row, c.pots, err)
		}
	}
}

// TestFellows is P6.8.
func TestFellows(t *testing.T) {
	for i, c := range []struct {
		row     api.PotRow
		pot     int
		fellows []int
		err     api.Errno
	}{
		{rowR(), 6, indices(0, 1, 2, 3, 4, 5, 7, 8, 9), api.OK},
		{rowR(), 16, indices(14, 15, 17, 18, 19), api.OK},
		{rowR(), 0, indices(1, 2, 3, 4, 5, 6, 7), api.OK},
		{rowR(), 10, indices(8, 9, 11, 12, 13, 14, 15), api.OK},
		{rowR(), 14, indices(8, 9, 10, 11, 12, 13, 15, 16, 17, 18, 19), api.OK},
		{rowR(), 19, indices(14, 15, 16, 17, 18), api.OK},
		{rowS(), 15, nil, api.OK},
		{rowS(), 8, indices(9, 10, 11, 12), api.OK},
		{row(1, nil), 0, nil, api.OK},
		{row(9, nil, 4, 4), 4, nil, api.OK},
		{largest(), 39, upTo(39), api.OK},

		{rowR(), 20, nil, api.ErrArg},
		{rowR(), 21, nil, api.ErrArg},
		{rowR(), -1, nil, api.ErrArg},
		{rowR(), math.MinInt, nil, api.ErrArg},
		{rowR(), math.MaxInt, nil, api.ErrArg},
		{largest(), 40, nil, api.ErrArg},
	} {
		if pots, err := pot.Fellows(c.row, c.pot); !slices.Equal(pots, c.fellows) || err != c.err {
			t.Error(i, c.row, c.pot, pots, err)
		}
	}
}
