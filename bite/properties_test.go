package bite_test

import (
	"slices"
	"testing"

	"senvy/api"
	"senvy/bite"
	"senvy/dice"
)

// compareChanges compares what is told of a row with what was tried.
func compareChanges(t *testing.T, row []int64, a answer) {
	t.Helper()
	if even, near := changes(t, row); even != a.even || near != a.near {
		t.Fatal(row, even, near, a)
	}
	mosts := numbers(0, 1, a.even-1, a.even, a.even+1, 500, 1000)
	for _, least := range a.peaks {
		mosts = append(mosts, least-1, least)
	}
	for _, most := range mosts {
		if got := peaks(t, row, max(most, 0)); !slices.Equal(got, a.peaksWithin(max(most, 0))) {
			t.Fatal(row, most, got, a)
		}
	}
}

// TestTried compares what is told of short rows with what trying all curves finds, and CheckCurve with the definition (P5.2, P5.4, P5.5).
//
// It is enough to try numbers of the range in which the readings are: numbers beyond it change more, and rise and fall no better.
func TestTried(t *testing.T) {
	d := dice.Dice(1)
	counts := map[api.Errno]int{}
	for range 300 {
		// Close to the least reading that can be, or to the greatest one; some of the range is beyond it.
		lo := d.From(0, 1)*(api.MaxBiteValue-5) - d.From(0, 1)
		hi := lo + 6
		var row []int64
		for range 1 + d.Below(5) {
			row = append(row, d.From(limited(lo), limited(hi)))
		}
		compareChanges(t, row, tryCurves(row, limited(lo), limited(hi)))
		everyCurve(min(len(row), 4), lo, hi, func(curve []int64) {
			row := row[:len(curve)]
			greatest, sum := measure(row, curve)
			want := api.OK
			switch {
			case slices.Min(curve) < 0 || slices.Max(curve) > api.MaxBiteValue:
				greatest, sum, want = 0, 0, api.ErrRange
			case !bends(curve):
				greatest, sum, want = 0, 0, api.ErrBite
			}
			if most, all, err := bite.CheckCurve(row, curve); most != greatest || all != sum || err != want {
				t.Fatal(row, curve, most, all, err)
			}
			counts[want]++
		})
	}
	if min(counts[api.OK], counts[api.ErrRange], counts[api.ErrBite]) < 1000 {
		t.Error(counts)
	}
}

// TestNumbers compares what is told of rows with what trying all numbers finds (P5.4, P5.5).
func TestNumbers(t *testing.T) {
	for _, row := range append(rows(t, 2, 600), zigzag(), turned(zigzag()), rowA()) {
		compareChanges(t, row, tryNumbers(row))
	}
}

// TestCurves compares CheckCurve with the definition, for curves of all lengths (P5.2).
func TestCurves(t *testing.T) {
	d := dice.Dice(3)
	good, bad := 0, 0
	for _, row := range rows(t, 4, 1500) {
		curve := curveThrown(&d, row)
		if d.Below(2) == 0 {
			curve[d.Below(len(curve))] = d.From(0, api.MaxBiteValue)
		}
		greatest, sum, err := bite.CheckCurve(row, curve)
		if !bends(curve) {
			bad++
			if greatest != 0 || sum != 0 || err != api.ErrBite {
				t.Fatal(row, curve, greatest, sum, err)
			}
			continue
		}
		good++
		if most, all := measure(row, curve); greatest != most || sum != all || err != api.OK {
			t.Fatal(row, curve, greatest, sum, err)
		}
	}
	if min(good, bad) < 300 {
		t.Error(good, bad)
	}
}

// TestValleys compares Valley and CheckValley with trying all valleys (P5.3).
func TestValleys(t *testing.T) {
	for _, row := range append(rows(t, 5, 600), zigzag(), rowA(), rowB()) {
		want, deepest := tryValleys(row)
		one, two, three, err := bite.Valley(row)
		if bends(row) {
			if one != 0 || two != 0 || three != 0 || err != api.ErrNone || deepest > 0 {
				t.Fatal(row, one, two, three, err, deepest)
			}
		} else if depth, bad := bite.CheckValley(row, one, two, three); !slices.Equal(indices(one, two, three), want) || depth != deepest || err != api.OK || bad != api.OK {
			t.Fatal(row, one, two, three, err, depth, bad, want, deepest)
		}
		compareDepths(t, row)
	}
}

// compareDepths compares CheckValley with the definition, for all places of a row and those next to its ends.
func compareDepths(t *testing.T, row []int64) {
	t.Helper()
	for one := -1; one <= len(row); one++ {
		for two := -1; two <= len(row); two++ {
			for three := -1; three <= len(row); three++ {
				depth, err := bite.CheckValley(row, one, two, three)
				if one < 0 || two <= one || three <= two || three >= len(row) {
					if depth != 0 || err != api.ErrArg {
						t.Fatal(row, one, two, three, depth, err)
					}
				} else if depth != min(row[one], row[three])-row[two] || err != api.OK {
					t.Fatal(row, one, two, three, depth, err)
				}
			}
		}
	}
}

// TestProved is P5.8.
func TestProved(t *testing.T) {
	d := dice.Dice(6)
	odd := 0
	for _, row := range rows(t, 7, 600) {
		_, deepest := tryValleys(row)
		even, _ := changes(t, row)
		if even != max(deepest+1, 0)/2 {
			t.Fatal(row, even, deepest)
		}
		odd += int(max(deepest, 0) % 2)
		for range 20 {
			curve := curveThrown(&d, row)
			if greatest, _, err := bite.CheckCurve(row, curve); err != api.OK || 2*greatest < deepest || greatest < even {
				t.Fatal(row, curve, greatest, err, deepest, even)
			}
		}
	}
	if odd < 50 {
		t.Error(odd)
	}
}

// TestBoth is P5.9.
func TestBoth(t *testing.T) {
	for _, row := range rows(t, 8, 1500) {
		even, near := changes(t, row)
		if near < even || near > even*int64(len(row)) {
			t.Fatal(row, even, near)
		}
		if good := bends(row); good != (even == 0) || good != (near == 0) {
			t.Fatal(row, even, near)
		}
	}
}

// TestPeaksWithin is P5.10.
func TestPeaksWithin(t *testing.T) {
	for _, row := range rows(t, 9, 300) {
		even, _ := changes(t, row)
		var last []int
		for most := int64(0); most <= api.MaxBiteValue; most += 1 + most/50 {
			got := peaks(t, row, most)
			if (len(got) > 0) != (most >= even) || !includes(got, last) {
				t.Fatal(row, most, got, last, even)
			}
			last = got
		}
		for place, reading := range row {
			if reading == slices.Max(row) && !includes(peaks(t, row, even), indices(place)) {
				t.Fatal(row, place, even)
			}
		}
		if even > 0 && len(peaks(t, row, even-1)) > 0 {
			t.Fatal(row, even)
		}
		if all := peaks(t, row, api.MaxBiteValue); len(all) != len(row) {
			t.Fatal(row, all)
		}
	}
}

// TestTurned is P5.11.
func TestTurned(t *testing.T) {
	d := dice.Dice(10)
	for _, row := range rows(t, 11, 600) {
		back := turned(row)
		even, near := changes(t, row)
		if evenBack, nearBack := changes(t, back); even != evenBack || near != nearBack {
			t.Fatal(row, even, near, evenBack, nearBack)
		}
		for _, most := range numbers(0, even, even+d.From(0, 9), d.From(0, api.MaxBiteValue)) {
			most = min(most, api.MaxBiteValue)
			var there []int
			for _, peak := range peaks(t, back, most) {
				there = append(there, len(row)-1-peak)
			}
			if got := peaks(t, row, most); !slices.Equal(got, turned(there)) {
				t.Fatal(row, most, got, there)
			}
		}
	}
}

// TestMoved is P5.12.
func TestMoved(t *testing.T) {
	d := dice.Dice(12)
	moved, multiplied := 0, 0
	for _, row := range rows(t, 13, 2000) {
		even, near := changes(t, row)
		by := d.From(-20, 20)
		greater := changed(row, func(n int64) int64 { return n + by })
		if bite.CheckRow(greater) == api.OK && even > 0 {
			moved++
			if e, n := changes(t, greater); e != even || n != near {
				t.Fatal(row, by, even, near, e, n)
			}
		}
		times := d.From(2, 4)
		multiple := changed(row, func(n int64) int64 { return n * times })
		if bite.CheckRow(multiple) == api.OK && even > 0 {
			multiplied++
			if _, n := changes(t, multiple); n != near*times {
				t.Fatal(row, times, near, n)
			}
		}
	}
	if min(moved, multiplied) < 50 {
		t.Error(moved, multiplied)
	}
}

// TestMore is P5.13.
func TestMore(t *testing.T) {
	d := dice.Dice(14)
	greater := 0
	for _, row := range rows(t, 15, 1000) {
		reading := numbers(d.From(0, api.MaxBiteValue))
		even, near := changes(t, row)
		for _, more := range [][]int64{slices.Concat(reading, row), slices.Concat(row, reading)} {
			if len(more) > api.MaxBiteRow {
				continue
			}
			e, n := changes(t, more)
			if e < even || n < near {
				t.Fatal(row, more, even, near, e, n)
			}
			greater += int(min(n-near, 1))
		}
		for _, less := range [][]int64{row[1:], row[:len(row)-1]} {
			if len(less) == 0 {
				continue
			}
			if e, n := changes(t, less); e > even || n > near {
				t.Fatal(row, less, even, near, e, n)
			}
		}
	}
	if greater < 100 {
		t.Error(greater)
	}
}

// TestEnough compares Need, Next and Tastes with a slow program that tries all places in all rows (P5.6, P5.7).
func TestEnough(t *testing.T) {
	for places := 1; places <= 8; places++ {
		all, s, tasted := hills(places), searcher{}, make([]bool, places)
		want := s.enough(all, tasted)
		if got, err := bite.Tastes(places); got != want || err != api.OK {
			t.Fatal(places, got, err, want)
		}
		for first := range places {
			tasted[first] = true
			left, right := first, places-1-first
			want := s.enough(all, tasted)
			if got := need(t, left, right); got != want {
				t.Fatal(left, right, got, want)
			}
			if want > 0 {
				if worst := s.worst(all, tasted, first+next(t, left, right)); worst != want-1 {
					t.Fatal(left, right, worst, want)
				}
			}
			tasted[first] = false
		}
	}
}

// after returns the sides after a taste: if its value is greater, and if it is not.
func after(left, right, far int) [2][2]int {
	between := max(far, -far) - 1
	if far < 0 {
		return [2][2]int{{left - between - 1, between}, {between, right}}
	}
	return [2][2]int{{between, right - between - 1}, {left, between}}
}

// TestNext is P5.6 for all sides: one taste less is needed after the next one, but after no other one less than that.
func TestNext(t *testing.T) {
	var known [api.MaxBiteSide + 1][api.MaxBiteSide + 1]int
	for left := range known {
		for right := range known[left] {
			known[left][right] = need(t, left, right)
		}
	}
	worst := func(left, right, far int) int {
		sides := after(left, right, far)
		return max(known[sides[0][0]][sides[0][1]], known[sides[1][0]][sides[1][1]])
	}
	for left := range known {
		for right, n := range known[left] {
			for far := -left; far <= right; far++ {
				if far != 0 && worst(left, right, far) < n-1 {
					t.Fatal(left, right, far)
				}
			}
			if left+right > 0 && worst(left, right, next(t, left, right)) != n-1 {
				t.Fatal(left, right, next(t, left, right))
			}
			if (n == 0) != (left+right == 0) {
				t.Fatal(left, right, n)
			}
		}
	}
}

// hillThrown throws a row with a peak that rises and falls, no two values of which that are next to each other are the same.
func hillThrown(d *dice.Dice, left, right, peak int) []int64 {
	row := make([]int64, left+1+right)
	row[peak] = api.MaxBiteValue
	steep := []int64{1, 3, 16}[d.Below(3)]
	for place := peak - 1; place >= 0; place-- {
		row[place] = row[place+1] - d.From(1, steep)
	}
	steep = []int64{1, 3, 16}[d.Below(3)]
	for place := peak + 1; place < len(row); place++ {
		row[place] = row[place-1] - d.From(1, steep)
	}
	return row
}

// guide is what Next tells, as far as it was asked.
type guide map[[2]int]int

func (g guide) next(t *testing.T, left, right int) int {
	t.Helper()
	far, known := g[[2]int{left, right}]
	if !known {
		far = next(t, left, right)
		g[[2]int{left, right}] = far
	}
	return far
}

// search finds the peak of a row by Next, from a first place on, and returns how many tastes it took after the first one.
func (g guide) search(t *testing.T, row []int64, at int) (peak, tastes int) {
	t.Helper()
	left, right := at, len(row)-1-at
	for left+right > 0 {
		far := g.next(t, left, right)
		sides := after(left, right, far)
		if row[at+far] > row[at] {
			at += far
			left, right = sides[0][0], sides[0][1]
		} else {
			left, right = sides[1][0], sides[1][1]
		}
		tastes++
	}
	return at, tastes
}

// TestFound is P5.14 for searches that stand somewhere.
func TestFound(t *testing.T) {
	d, g := dice.Dice(16), guide{}
	for left := range api.MaxBiteSide + 1 {
		for right := range api.MaxBiteSide + 1 {
			needed := need(t, left, right)
			for peak := range left + 1 + right {
				row := hillThrown(&d, left, right, peak)
				if found, tastes := g.search(t, row, left); found != peak || tastes > needed {
					t.Fatal(row, left, found, tastes, needed)
				}
			}
		}
	}
}

// TestFirst is P5.7 and P5.14 for searches that taste their first place.
func TestFirst(t *testing.T) {
	d, g := dice.Dice(17), guide{}
	searched := 0
	for places := 2; places <= api.MaxBiteWhole; places++ {
		tastes, err := bite.Tastes(places)
		if err != api.OK {
			t.Fatal(places, err)
		}
		for first := range places {
			left, right := first, places-1-first
			if max(left, right) > api.MaxBiteSide {
				continue
			}
			n := 1 + need(t, left, right)
			if n < tastes {
				t.Fatal(left, right, n, tastes)
			}
			if n > tastes {
				continue
			}
			searched++
			for peak := range places {
				row := hillThrown(&d, left, right, peak)
				if found, n := g.search(t, row, first); found != peak || 1+n > tastes {
					t.Fatal(row, first, found, n, tastes)
				}
			}
		}
	}
	if searched < 100 {
		t.Error(searched)
	}
}

// fibonacci returns the number with an index of 1, 1, 2, 3, 5 and so on, counted from 1 on.
func fibonacci(index int) int {
	one, two := 0, 1
	for range index {
		one, two = two, one+two
	}
	return one
}

// TestNeeded is P5.15.
func TestNeeded(t *testing.T) {
	for left := range api.MaxBiteSide + 1 {
		for right := range api.MaxBiteSide + 1 {
			n := need(t, left, right)
			if need(t, right, left) != n || left > 0 && need(t, left-1, right) > n || right > 0 && need(t, left, right-1) > n {
				t.Fatal(left, right, n)
			}
			least := 0
			for max(left, right) >= fibonacci(least+2) || min(left, right) >= fibonacci(least+1) {
				least++
			}
			if n != least {
				t.Fatal(left, right, n, least)
			}
		}
	}
	for places := 2; places <= api.MaxBiteWhole; places++ {
		least := 0
		for places >= fibonacci(least+2) {
			least++
		}
		if n, err := bite.Tastes(places); n != least || err != api.OK {
			t.Fatal(places, n, err, least)
		}
	}
}
