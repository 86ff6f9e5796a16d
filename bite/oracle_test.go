package bite_test

import "fmt"

// bendsAt tells whether a list rises and falls at a place.
func bendsAt(list []int64, peak int) bool {
	for place := 1; place < len(list); place++ {
		if place <= peak && list[place] < list[place-1] || place > peak && list[place] > list[place-1] {
			return false
		}
	}
	return true
}

// bends tells whether a list rises and falls.
func bends(list []int64) bool {
	for peak := range list {
		if bendsAt(list, peak) {
			return true
		}
	}
	return false
}

func gap(one, two int64) int64 {
	if one < two {
		return two - one
	}
	return one - two
}

// measure returns the greatest change and the sum of a curve; nothing if it is not as long as the row.
func measure(row, curve []int64) (int64, int64) {
	if len(curve) != len(row) {
		return -1, -1
	}
	var greatest, sum int64
	for place := range row {
		greatest = max(greatest, gap(row[place], curve[place]))
		sum += gap(row[place], curve[place])
	}
	return greatest, sum
}

// isCurve tells whether a list is a curve of a row that rises and falls.
func isCurve(row, curve []int64) bool {
	for _, n := range curve {
		if n < 0 || n > 1000 {
			return false
		}
	}
	return len(curve) == len(row) && bends(curve)
}

// everyCurve calls a function with all lists of so many numbers of a range.
func everyCurve(length int, lo, hi int64, visit func(curve []int64)) {
	curve := make([]int64, length)
	var fill func(place int)
	fill = func(place int) {
		if place == length {
			visit(curve)
			return
		}
		for n := lo; n <= hi; n++ {
			curve[place] = n
			fill(place + 1)
		}
	}
	fill(0)
}

// answer is the even change, the near change, and for each place the least greatest change of a curve that has a peak there.
type answer struct {
	even, near int64
	peaks      []int64
}

// add takes a curve into account: what it changes, and whether it has a peak at a place.
func (a *answer) add(greatest, sum int64, peak int) {
	a.peaks[peak] = min(a.peaks[peak], greatest)
	a.even = min(a.even, greatest)
	a.near = min(a.near, sum)
}

func nothingTried(length int) answer {
	a := answer{1 << 40, 1 << 40, nil}
	for range length {
		a.peaks = append(a.peaks, 1<<40)
	}
	return a
}

// tryCurves tries all curves whose numbers are of a range.
func tryCurves(row []int64, lo, hi int64) answer {
	a := nothingTried(len(row))
	everyCurve(len(row), lo, hi, func(curve []int64) {
		greatest, sum := measure(row, curve)
		for peak := range row {
			if bendsAt(curve, peak) {
				a.add(greatest, sum, peak)
			}
		}
	})
	return a
}

// climbs returns, for each place and each number at it, the least greatest change and the least sum of numbers up to there that rise.
func climbs(row []int64) (greatest, sum [][]int64) {
	for place, reading := range row {
		var most, all []int64
		leastMost, leastAll := int64(1<<40), int64(1<<40)
		for n := range int64(1001) {
			if place == 0 {
				leastMost, leastAll = 0, 0
			} else {
				leastMost = min(leastMost, greatest[place-1][n])
				leastAll = min(leastAll, sum[place-1][n])
			}
			most = append(most, max(leastMost, gap(reading, n)))
			all = append(all, leastAll+gap(reading, n))
		}
		greatest, sum = append(greatest, most), append(sum, all)
	}
	return greatest, sum
}

// tryNumbers tries all numbers at all peaks.
func tryNumbers(row []int64) answer {
	a := nothingTried(len(row))
	leftMost, leftSum := climbs(row)
	rightMost, rightSum := climbs(turned(row))
	for peak, reading := range row {
		back := len(row) - 1 - peak
		for n := range int64(1001) {
			greatest := max(leftMost[peak][n], rightMost[back][n])
			a.add(greatest, leftSum[peak][n]+rightSum[back][n]-gap(reading, n), peak)
		}
	}
	return a
}

// peaksWithin returns the places of the peaks of all curves whose greatest change is at most so much.
func (a answer) peaksWithin(most int64) []int {
	var out []int
	for peak, least := range a.peaks {
		if least <= most {
			out = append(out, peak)
		}
	}
	return out
}

// tryValleys returns the first one of the deepest valleys, and its depth; nothing if there is no valley.
func tryValleys(row []int64) ([]int, int64) {
	var deepest []int
	var depth int64
	for one := range row {
		for two := range row {
			for three := range row {
				if one >= two || two >= three {
					continue
				}
				by := min(row[one]-row[two], row[three]-row[two])
				if deepest == nil || by > depth {
					deepest, depth = indices(one, two, three), by
				}
			}
		}
	}
	return deepest, depth
}

// hills returns one row of each way in which so many values, no two of which that are next to each other are the same, can rise and fall.
//
// Values are merged from both ends: the next greater one is at the left end, at the right one, or at both.
func hills(places int) [][]int64 {
	var out [][]int64
	var fill func(row []int64, left, right int, value int64)
	fill = func(row []int64, left, right int, value int64) {
		if left > right {
			return
		}
		set := func(ends ...int) []int64 {
			next := append([]int64(nil), row...)
			for _, end := range ends {
				next[end] = value
			}
			return next
		}
		if left == right {
			out = append(out, set(left))
			return
		}
		fill(set(left), left+1, right, value+1)
		fill(set(right), left, right-1, value+1)
		fill(set(left, right), left+1, right-1, value+1)
	}
	fill(make([]int64, places), 0, places-1, 0)
	return out
}

// peakOf returns the place of the greatest value.
func peakOf(row []int64) int {
	peak := 0
	for place := range row {
		if row[place] > row[peak] {
			peak = place
		}
	}
	return peak
}

// searcher knows how many tastes are surely enough, by what was found.
type searcher map[string]int

// look returns what is known of a row of which some places were tasted: which value is greater than which.
func look(row []int64, tasted []bool) string {
	out := ""
	for place := range row {
		rank := -1
		if tasted[place] {
			rank = 0
			for other := range row {
				if tasted[other] && row[other] < row[place] {
					rank++
				}
			}
		}
		out += fmt.Sprint(rank, " ")
	}
	return out
}

// enough returns the least number of tastes that are surely enough to find the peak, if it is known that a row is one of some.
//
// It tries all places that can be tasted next. These can be any, and not only those of a search that stands somewhere.
func (s searcher) enough(rows [][]int64, tasted []bool) int {
	sure := true
	for _, row := range rows {
		sure = sure && peakOf(row) == peakOf(rows[0])
	}
	if sure {
		return 0
	}
	known := look(rows[0], tasted)
	if n, ok := s[known]; ok {
		return n
	}
	least := 1 << 20
	for place := range tasted {
		if tasted[place] {
			continue
		}
		least = min(least, 1+s.worst(rows, tasted, place))
	}
	s[known] = least
	return least
}

// worst returns how many tastes are surely enough after one at a place, whatever is found.
func (s searcher) worst(rows [][]int64, tasted []bool, place int) int {
	then := append([]bool(nil), tasted...)
	then[place] = true
	groups := map[string][][]int64{}
	for _, row := range rows {
		found := look(row, then)
		groups[found] = append(groups[found], row)
	}
	most := 0
	for _, group := range groups {
		most = max(most, s.enough(group, then))
	}
	return most
}
