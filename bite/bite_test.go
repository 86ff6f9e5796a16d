package bite_test

import (
	"math"
	"slices"
	"testing"

	"senvy/api"
	"senvy/bite"
)

// rowCase is a row and what CheckRow has to return.
type rowCase struct {
	name string
	row  []int64
	err  api.Errno
}

func rowCases() []rowCase {
	cases := []rowCase{
		{"A", rowA(), api.OK},
		{"B", rowB(), api.OK},
		{"the shortest one", numbers(0), api.OK},
		{"the greatest reading", numbers(1000), api.OK},
		{"the longest one", zigzag(), api.OK},

		{"nothing", nil, api.ErrMany},
		{"an empty one", numbers(), api.ErrMany},
		{"a reading too many", flat(13, 0), api.ErrMany},
		{"many readings", flat(1000, 1), api.ErrMany},

		{"below 0", numbers(-1), api.ErrRange},
		{"too great", numbers(1001), api.ErrRange},
		{"far below 0", numbers(math.MinInt64), api.ErrRange},
		{"far too great", numbers(math.MaxInt64), api.ErrRange},

		// Several errors at once.
		{"too many before below 0", flat(13, -1), api.ErrMany},
		{"too many before too great", flat(13, 1001), api.ErrMany},
		{"below 0 and too great", numbers(1001, -1), api.ErrRange},
	}
	for place := range api.MaxBiteRow {
		for _, n := range numbers(-1, 1001, math.MinInt64, math.MaxInt64) {
			row := zigzag()
			row[place] = n
			cases = append(cases, rowCase{"a bad reading among good ones", row, api.ErrRange})
		}
	}
	return cases
}

// TestCheckRow is P5.1.
func TestCheckRow(t *testing.T) {
	for _, c := range rowCases() {
		if err := bite.CheckRow(c.row); err != c.err {
			t.Errorf("%s: %v: %v, not %v", c.name, c.row, err, c.err)
		}
	}
}

// call is what a function returned: whether it told something, and its error.
type call struct {
	name string
	some bool
	err  api.Errno
}

// calls calls all functions with a row but CheckRow.
func calls(row, curve []int64, place int, most int64) []call {
	greatest, sum, err := bite.CheckCurve(row, curve)
	out := []call{{"CheckCurve", greatest != 0 || sum != 0, err}}
	depth, err := bite.CheckValley(row, place, place+1, place+2)
	out = append(out, call{"CheckValley", depth != 0, err})
	one, two, three, err := bite.Valley(row)
	out = append(out, call{"Valley", one != 0 || two != 0 || three != 0, err})
	even, list, err := bite.Even(row)
	out = append(out, call{"Even", even != 0 || len(list) > 0, err})
	near, list, err := bite.Near(row)
	out = append(out, call{"Near", near != 0 || len(list) > 0, err})
	places, err := bite.Peaks(row, most)
	return append(out, call{"Peaks", len(places) > 0, err})
}

// TestRowFirst checks that the error of the row comes before all others, and that nothing is told with it.
func TestRowFirst(t *testing.T) {
	for _, c := range rowCases() {
		if c.err == api.OK {
			continue
		}
		for _, curve := range [][]int64{nil, c.row, numbers(1, 2), numbers(-1), flat(len(c.row), 7), flat(len(c.row), 1001)} {
			for _, place := range indices(-1, 0, 99) {
				for _, most := range numbers(-1, 0, 1000, 1001) {
					for _, got := range calls(c.row, curve, place, most) {
						if got.some || got.err != c.err {
							t.Errorf("%s: %s: %v, not %v, or a result beside it", c.name, got.name, got.err, c.err)
						}
					}
				}
			}
		}
	}
}

// TestCheckCurve is P5.2.
func TestCheckCurve(t *testing.T) {
	for i, c := range []struct {
		row, curve    []int64
		greatest, sum int64
		err           api.Errno
	}{
		{rowA(), numbers(2, 4, 4, 8, 7, 7, 1), 1, 3, api.OK},
		{rowA(), numbers(2, 5, 5, 8, 7, 7, 1), 2, 3, api.OK},
		{rowA(), numbers(1, 2, 3, 4, 5, 6, 7), 6, 16, api.OK},
		{rowA(), numbers(7, 6, 5, 4, 3, 2, 1), 5, 20, api.OK},
		{rowA(), flat(7, 0), 8, 32, api.OK},
		{rowA(), flat(7, 1000), 999, 6968, api.OK},
		{rowB(), rowB(), 0, 0, api.OK},
		{numbers(3), numbers(3), 0, 0, api.OK},
		{numbers(0), numbers(1000), 1000, 1000, api.OK},
		{numbers(5, 2), numbers(2, 5), 3, 6, api.OK},
		{zigzag(), flat(12, 0), 1000, 6000, api.OK},
		{zigzag(), flat(12, 400), 600, 6000, api.OK},

		{rowA(), rowA(), 0, 0, api.ErrBite},
		{rowA(), numbers(2, 5, 5, 4, 5, 5, 1), 0, 0, api.ErrBite},
		{rowA(), numbers(3, 2, 2, 2, 2, 2, 3), 0, 0, api.ErrBite},
		{rowA(), numbers(8, 7, 8, 8, 7, 7, 1), 0, 0, api.ErrBite},
		{rowA(), numbers(2, 4, 4, 8, 7, 1, 2), 0, 0, api.ErrBite},
		{numbers(5, 5, 5), numbers(5, 4, 5), 0, 0, api.ErrBite},

		{rowA(), nil, 0, 0, api.ErrEqual},
		{rowA(), numbers(2, 4, 4), 0, 0, api.ErrEqual},
		{rowA(), flat(6, 4), 0, 0, api.ErrEqual},
		{rowA(), flat(8, 4), 0, 0, api.ErrEqual},
		{zigzag(), flat(13, 4), 0, 0, api.ErrEqual},

		{rowA(), numbers(-1, 4, 4, 8, 7, 7, 1), 0, 0, api.ErrRange},
		{rowA(), numbers(2, 4, 4, 1001, 7, 7, 1), 0, 0, api.ErrRange},
		{rowA(), numbers(2, 4, 4, 8, 7, 7, -1), 0, 0, api.ErrRange},
		{numbers(3), numbers(math.MinInt64), 0, 0, api.ErrRange},
		{numbers(3), numbers(math.MaxInt64), 0, 0, api.ErrRange},

		// Several errors at once.
		{rowA(), numbers(-1, 4, 4), 0, 0, api.ErrEqual},
		{rowA(), numbers(5, 3, 5), 0, 0, api.ErrEqual},
		{rowA(), numbers(1001, -1, 1001, -1, 0, 0, 0, 0), 0, 0, api.ErrEqual},
		{rowA(), numbers(2, 5, 3, 8, 6, 7, -1), 0, 0, api.ErrRange},
		{rowA(), numbers(2, 5, 3, 1001, 6, 7, 1), 0, 0, api.ErrRange},
	} {
		if greatest, sum, err := bite.CheckCurve(c.row, c.curve); greatest != c.greatest || sum != c.sum || err != c.err {
			t.Error(i, c.row, c.curve, greatest, sum, err)
		}
	}
}

// TestCheckValley is P5.3.
func TestCheckValley(t *testing.T) {
	for i, c := range []struct {
		row             []int64
		one, two, three int
		depth           int64
		err             api.Errno
	}{
		{rowA(), 1, 2, 3, 2, api.OK},
		{rowA(), 3, 4, 5, 1, api.OK},
		{rowA(), 1, 2, 5, 2, api.OK},
		{rowA(), 0, 2, 3, -1, api.OK},
		{rowA(), 0, 1, 2, -3, api.OK},
		{rowA(), 1, 3, 6, -7, api.OK},
		{rowA(), 0, 3, 6, -7, api.OK},
		{rowB(), 1, 2, 3, -2, api.OK},
		{numbers(4, 4, 4), 0, 1, 2, 0, api.OK},
		{zigzag(), 1, 10, 11, 1000, api.OK},
		{zigzag(), 0, 1, 2, -1000, api.OK},

		{rowA(), 1, 1, 3, 0, api.ErrArg},
		{rowA(), 1, 3, 3, 0, api.ErrArg},
		{rowA(), 2, 1, 3, 0, api.ErrArg},
		{rowA(), 1, 3, 2, 0, api.ErrArg},
		{rowA(), 3, 2, 1, 0, api.ErrArg},
		{rowA(), -1, 2, 3, 0, api.ErrArg},
		{rowA(), 1, 2, 7, 0, api.ErrArg},
		{rowA(), 7, 8, 9, 0, api.ErrArg},
		{rowA(), -3, -2, -1, 0, api.ErrArg},
		{rowA(), math.MinInt, 0, math.MaxInt, 0, api.ErrArg},
		{rowA(), 0, 1, math.MaxInt, 0, api.ErrArg},
		{rowA(), math.MinInt, 1, 2, 0, api.ErrArg},
		{numbers(7), 0, 0, 0, 0, api.ErrArg},
		{numbers(7, 3), 0, 1, 2, 0, api.ErrArg},
		{zigzag(), 1, 2, 12, 0, api.ErrArg},
	} {
		if depth, err := bite.CheckValley(c.row, c.one, c.two, c.three); depth != c.depth || err != c.err {
			t.Error(i, c.row, depth, err)
		}
	}
}

// TestChanges is P5.3 for Valley, and P5.4, for rows whose changes are known.
func TestChanges(t *testing.T) {
	for i, c := range []struct {
		row        []int64
		even, near int64
		valley     []int // none, if the row rises and falls
	}{
		{rowA(), 1, 3, indices(1, 2, 3)},
		{rowB(), 0, 0, nil},
		{numbers(7), 0, 0, nil},
		{numbers(7, 3), 0, 0, nil},
		{numbers(3, 7), 0, 0, nil},
		{numbers(4, 4, 4), 0, 0, nil},
		{numbers(1, 2, 3), 0, 0, nil},
		{numbers(3, 2, 1), 0, 0, nil},
		{numbers(1, 4, 2), 0, 0, nil},
		{numbers(0, 0, 1000, 1000, 0, 0), 0, 0, nil},

		// Depths that are even, and odd; bottoms that are equal, and sides.
		{numbers(5, 0, 5), 3, 5, indices(0, 1, 2)},
		{numbers(5, 0, 4), 2, 4, indices(0, 1, 2)},
		{numbers(4, 0, 5), 2, 4, indices(0, 1, 2)},
		{numbers(1, 0, 1), 1, 1, indices(0, 1, 2)},
		{numbers(4, 4, 1, 1, 4, 4), 2, 6, indices(0, 2, 4)},
		{numbers(3, 0, 3, 0, 3), 2, 6, indices(0, 1, 2)},
		{numbers(3, 0, 4, 0, 3), 2, 6, indices(0, 1, 2)},
		{numbers(9, 1, 8, 0, 9), 5, 16, indices(0, 3, 4)},
		{numbers(0, 5, 4, 9, 6, 9), 2, 4, indices(3, 4, 5)},

		// At the ends of what readings can be.
		{numbers(0, 1000, 0, 1000, 0), 500, 1000, indices(1, 2, 3)},
		{numbers(1000, 0, 1000), 500, 1000, indices(0, 1, 2)},
		{numbers(999, 0, 999), 500, 999, indices(0, 1, 2)},
		{zigzag(), 500, 5000, indices(1, 2, 3)},
	} {
		one, two, three, err := bite.Valley(c.row)
		if c.valley == nil && (one != 0 || two != 0 || three != 0 || err != api.ErrNone) {
			t.Error(i, c.row, one, two, three, err)
		}
		if c.valley != nil && (!slices.Equal(indices(one, two, three), c.valley) || err != api.OK) {
			t.Error(i, c.row, one, two, three, err)
		}
		if even, near := changes(t, c.row); even != c.even || near != c.near {
			t.Error(i, c.row, even, near)
		}
	}
}

// TestPeaks is P5.5 for rows whose peaks are known.
func TestPeaks(t *testing.T) {
	all := indices(0, 1, 2, 3, 4, 5, 6, 7, 8, 9, 10, 11)
	for i, c := range []struct {
		row   []int64
		most  int64
		peaks []int
		err   api.Errno
	}{
		{rowA(), 0, nil, api.OK},
		{rowA(), 1, indices(3, 4, 5), api.OK},
		{rowA(), 2, indices(3, 4, 5), api.OK},
		{rowA(), 3, all[:6], api.OK},
		{rowA(), 4, all[:7], api.OK},
		{rowA(), 1000, all[:7], api.OK},
		{rowB(), 0, indices(1, 2), api.OK},
		{rowB(), 1, indices(1, 2, 3), api.OK},
		{rowB(), 2, all[:4], api.OK},
		{numbers(7), 0, indices(0), api.OK},
		{numbers(3, 3), 0, indices(0, 1), api.OK},
		{numbers(3, 4), 0, indices(1), api.OK},
		{numbers(4, 3), 0, indices(0), api.OK},
		{numbers(4, 3), 1, indices(0, 1), api.OK},
		{numbers(5, 5, 0, 5), 2, nil, api.OK},
		{numbers(5, 5, 0, 5), 3, all[:4], api.OK},
		{zigzag(), 499, nil, api.OK},
		{zigzag(), 500, all, api.OK},
		{zigzag(), 1000, all, api.OK},

		{rowB(), -1, nil, api.ErrRange},
		{rowB(), 1001, nil, api.ErrRange},
		{rowA(), -1, nil, api.ErrRange},
		{rowB(), math.MinInt64, nil, api.ErrRange},
		{rowB(), math.MaxInt64, nil, api.ErrRange},
	} {
		if got, err := bite.Peaks(c.row, c.most); !slices.Equal(got, c.peaks) || err != c.err {
			t.Error(i, c.row, c.most, got, err)
		}
	}
}

// TestNeed is P5.6, but for what is told of each pair of sides.
func TestNeed(t *testing.T) {
	for i, c := range []struct {
		left, right, need int
		err               api.Errno
	}{
		{0, 0, 0, api.OK},
		{1, 0, 1, api.OK},
		{0, 1, 1, api.OK},
		{1, 1, 2, api.OK},
		{2, 0, 2, api.OK},
		{2, 1, 2, api.OK},
		{3, 0, 3, api.OK},
		{2, 2, 3, api.OK},
		{4, 2, 3, api.OK},
		{5, 2, 4, api.OK},
		{4, 3, 4, api.OK},
		{0, 30, 7, api.OK},
		{30, 0, 7, api.OK},
		{30, 20, 7, api.OK},
		{30, 21, 8, api.OK},
		{30, 30, 8, api.OK},

		{31, 0, 0, api.ErrRange},
		{0, 31, 0, api.ErrRange},
		{31, 31, 0, api.ErrRange},
		{-1, 0, 0, api.ErrRange},
		{0, -1, 0, api.ErrRange},
		{-1, 31, 0, api.ErrRange},
		{-1, 1, 0, api.ErrRange},
		{math.MinInt, 0, 0, api.ErrRange},
		{0, math.MaxInt, 0, api.ErrRange},
		{math.MaxInt, math.MinInt, 0, api.ErrRange},
	} {
		if n, err := bite.Need(c.left, c.right); n != c.need || err != c.err {
			t.Error(i, n, err)
		}
		if far, err := bite.Next(c.left, c.right); c.err != api.OK && (far != 0 || err != c.err) {
			t.Error(i, far, err)
		}
	}
	if far, err := bite.Next(0, 0); far != 0 || err != api.ErrNone {
		t.Error(far, err)
	}
	for _, far := range indices(-1, 1) {
		if got := next(t, max(-far, 0), max(far, 0)); got != far {
			t.Error(far, got)
		}
	}
}

// TestTastes is P5.7 for numbers of places at which the number of tastes changes, and invalid ones.
func TestTastes(t *testing.T) {
	for i, c := range []struct {
		places, tastes int
		err            api.Errno
	}{
		{1, 0, api.OK},
		{2, 2, api.OK},
		{3, 3, api.OK},
		{4, 3, api.OK},
		{5, 4, api.OK},
		{7, 4, api.OK},
		{8, 5, api.OK},
		{12, 5, api.OK},
		{13, 6, api.OK},
		{20, 6, api.OK},
		{21, 7, api.OK},
		{33, 7, api.OK},
		{34, 8, api.OK},
		{54, 8, api.OK},
		{55, 9, api.OK},
		{61, 9, api.OK},

		{0, 0, api.ErrRange},
		{62, 0, api.ErrRange},
		{-1, 0, api.ErrRange},
		{math.MinInt, 0, api.ErrRange},
		{math.MaxInt, 0, api.ErrRange},
	} {
		if n, err := bite.Tastes(c.places); n != c.tastes || err != c.err {
			t.Error(i, c.places, n, err)
		}
	}
}
