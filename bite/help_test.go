package bite_test

import (
	"slices"
	"testing"

	"senvy/api"
	"senvy/bite"
	"senvy/dice"
)

func numbers(n ...int64) []int64 { return n }
func indices(n ...int) []int     { return n }

// rowA and rowB are the rows A and B of the chapter.
func rowA() []int64 { return numbers(2, 5, 3, 8, 6, 7, 1) }
func rowB() []int64 { return numbers(1, 4, 4, 2) }

// zigzag is the longest row that goes to and fro as far as can be.
func zigzag() []int64 { return slices.Repeat(numbers(0, api.MaxBiteValue), api.MaxBiteRow/2) }

// flat returns a row of so many equal readings.
func flat(length int, reading int64) []int64 { return slices.Repeat(numbers(reading), length) }

// limited returns a number, or the next one that a reading can be.
func limited(n int64) int64 { return min(max(n, 0), api.MaxBiteValue) }

// thrown throws a row of one of several sorts.
func thrown(d *dice.Dice) []int64 {
	var row []int64
	sort, length, base := d.Below(5), 1+d.Below(api.MaxBiteRow), d.From(0, api.MaxBiteValue-3)
	peak, slope, noise := d.Below(length), d.From(0, 90), d.From(0, 60)
	for place := range length {
		reading := d.From(0, api.MaxBiteValue)
		switch sort {
		case 0: // close to one another, so that some are equal
			reading = base + d.From(0, 3)
		case 1: // close to an end of what they can be
			reading = []int64{0, 0, 1, 2, 998, 999, 1000, 1000}[d.Below(8)]
		case 2: // along a hill, so that they nearly rise and fall
			reading = limited(900 - slope*int64(max(place-peak, peak-place)) + d.From(-noise, noise))
		case 3: // on a hill
			reading = limited(900 - slope*int64(max(place-peak, peak-place)))
		}
		row = append(row, reading)
	}
	return row
}

// rows throws so many valid rows, of which some rise and fall, and some do not.
func rows(t *testing.T, seed dice.Dice, n int) [][]int64 {
	t.Helper()
	var all [][]int64
	good, lengths := 0, map[int]bool{}
	for range n {
		row := thrown(&seed)
		if err := bite.CheckRow(row); err != api.OK {
			t.Fatal(row, err)
		}
		if bends(row) {
			good++
		}
		lengths[len(row)] = true
		all = append(all, row)
	}
	if good < n/5 || good > n*4/5 || len(lengths) != api.MaxBiteRow {
		t.Fatalf("of %d rows %d rise and fall; %d lengths", n, good, len(lengths))
	}
	return all
}

// curveThrown throws a curve that rises and falls, mostly close to a row.
func curveThrown(d *dice.Dice, row []int64) []int64 {
	curve := slices.Clone(row)
	for place := range curve {
		curve[place] = limited(curve[place] + d.From(-40, 40)*int64(d.Below(2)))
	}
	peak := d.Below(len(curve))
	for place := 1; place <= peak; place++ {
		curve[place] = max(curve[place], curve[place-1])
	}
	for place := len(curve) - 2; place >= peak; place-- {
		curve[place] = max(curve[place], curve[place+1])
	}
	return curve
}

// turned returns a list turned round.
func turned[T any](list []T) []T {
	out := slices.Clone(list)
	slices.Reverse(out)
	return out
}

// changed returns a row of which each reading is changed by a function.
func changed(row []int64, change func(int64) int64) []int64 {
	var out []int64
	for _, reading := range row {
		out = append(out, change(reading))
	}
	return out
}

// changes returns what Even and Near tell of a row; it checks that their curves show it.
func changes(t *testing.T, row []int64) (int64, int64) {
	t.Helper()
	even, curve, err := bite.Even(row)
	if greatest, _ := measure(row, curve); err != api.OK || !isCurve(row, curve) || greatest != even {
		t.Fatal(row, even, curve, err)
	}
	near, curve, err := bite.Near(row)
	if _, sum := measure(row, curve); err != api.OK || !isCurve(row, curve) || sum != near {
		t.Fatal(row, near, curve, err)
	}
	return even, near
}

// peaks returns what Peaks tells of a row without an error.
func peaks(t *testing.T, row []int64, most int64) []int {
	t.Helper()
	all, err := bite.Peaks(row, most)
	if err != api.OK {
		t.Fatal(row, most, all, err)
	}
	return all
}

// need returns what Need tells without an error.
func need(t *testing.T, left, right int) int {
	t.Helper()
	n, err := bite.Need(left, right)
	if err != api.OK {
		t.Fatal(left, right, n, err)
	}
	return n
}

// next returns what Next tells without an error; it checks that there is such a place.
func next(t *testing.T, left, right int) int {
	t.Helper()
	far, err := bite.Next(left, right)
	if err != api.OK || far == 0 || far < -left || far > right {
		t.Fatal(left, right, far, err)
	}
	return far
}

// includes tells whether a list has all elements of another one.
func includes(list, other []int) bool {
	for _, n := range other {
		if !slices.Contains(list, n) {
			return false
		}
	}
	return true
}
