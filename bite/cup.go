package bite

import (
	"slices"

	"senvy/api"
)

// cup is a row, by how much its readings can be off at most, and the levels: numbers of which its curves can be made, strictly increasing.
type cup struct {
	line
	most   int64
	levels []int64
}

// cupped returns the cup of a valid row.
//
// A curve with the least sum can be made of readings, as it can be moved to the next reading where it is between two.
// The lowest curve that is not off by too much is made of the least numbers that readings allow: so with these there is a curve if there is any.
func cupped(row []int64, most int64) cup {
	c := cup{line: line{row}, most: most}
	for _, reading := range row {
		c.levels = append(c.levels, max(reading-most, 0), reading)
	}
	slices.Sort(c.levels)
	c.levels = slices.Compact(c.levels)
	return c
}

// off returns whether a number in the place of a reading is off by too much.
func (c cup) off(reading int64) func(number int64) bool {
	return func(number int64) bool { return difference(reading, number) > c.most }
}

// change is the least sum of changes of some curves, if there are any.
type change struct {
	sum int64
	can bool
}

// less reports whether a change is less than another one, or the only one.
func (c change) less(other change) bool {
	return c.can && (!other.can || c.sum < other.sum)
}

// sums are the least sums up to a place, by the level with which curves end there.
type sums [2 * api.MaxBiteRow]change

// none returns the sums up to a place that no curve reaches.
func none() sums { return sums{} }

// rise is the least sums of curves that rise up to a place, and such curves where there are any.
type rise struct {
	sums   sums
	curves [2 * api.MaxBiteRow][]int64
}

// least returns the level, of those up to one, with which curves end that have the least sum.
func (r rise) least(highest int) int {
	level := 0
	for other := range highest + 1 {
		if r.sums[other].less(r.sums[level]) {
			level = other
		}
	}
	return level
}

// rises returns the rise before the first one of some readings, and those up to each of them.
func (c cup) rises(readings []int64) []rise {
	var now rise
	now.sums[0].can = true
	all := []rise{now}
	for _, reading := range readings {
		tooMuch := c.off(reading)
		before := now
		clear(now.sums[:])
		for level, number := range c.levels {
			from := before.least(level)
			if before.sums[from].can && !tooMuch(number) {
				now.sums[level] = change{before.sums[from].sum + difference(reading, number), true}
				now.curves[level] = grown(before.curves[from], number)
			}
		}
		all = append(all, now)
	}
	return all
}

// grown returns a curve that goes on with a number.
func grown(curve []int64, number int64) []int64 {
	// Curves share their beginnings, so each must grow in new memory.
	n := len(curve)
	return append(curve[:n:n], number)
}

// turned returns a list turned round.
func turned(list []int64) []int64 {
	out := make([]int64, len(list))
	copy(out, list)
	slices.Reverse(out)
	return out
}

// slopes returns the rises from both ends of the row; the second ones begin with its last reading.
func (c cup) slopes() ([]rise, []rise) {
	return c.rises(c.readings), c.rises(turned(c.readings))
}

// reached reports whether there are curves of all of some rises.
func reached(rises ...rise) bool {
	for _, r := range rises {
		if r.sums == none() {
			return false
		}
	}
	return true
}

// peaks returns all places at which a curve can have a peak: it rises to this place from both ends.
func (c cup) peaks() []int {
	up, down := c.slopes()
	var all []int
	for place := range c.readings {
		if reached(up[place+1], down[len(c.readings)-place]) {
			all = append(all, place)
		}
	}
	return all
}

// curve is numbers that rise and fall, and the sum of their changes.
type curve struct {
	numbers []int64
	sum     int64
}

// nearer reports whether the sum of a curve is less than that of another one.
func (c curve) nearer(other curve) bool { return c.sum < other.sum }

// joined returns the curve with the least sum that is made of two rises, of which the second one is turned round.
func joined(up, down rise) curve {
	left, right := up.least(len(up.sums)-1), down.least(len(down.sums)-1)
	return curve{
		numbers: slices.Concat(up.curves[left], turned(down.curves[right])),
		sum:     up.sums[left].sum + down.sums[right].sum,
	}
}

// nearest returns the curve with the least sum of those that can be made of the levels; there is one, as most is at least the even change.
//
// Some first numbers of it rise, and all others fall; its peak is the greater one of those that are next to one another there.
func (c cup) nearest() curve {
	up, down := c.slopes()
	var all []curve
	for first := range up {
		if rest := len(c.readings) - first; reached(up[first], down[rest]) {
			all = append(all, joined(up[first], down[rest]))
		}
	}
	return best(curve.nearer, all[0], all[1:]...)
}
