package bite

// line is the readings of a valid row, or the numbers of a curve.
type line struct {
	readings []int64
}

// valley is three places.
type valley struct {
	one, two, three int
}

// has reports whether three places are a valley of a line.
func (l line) has(v valley) bool {
	return 0 <= v.one && v.one < v.two && v.two < v.three && v.three < len(l.readings)
}

// depth returns the depth of a valley.
func (l line) depth(v valley) int64 {
	return min(l.readings[v.one], l.readings[v.three]) - l.readings[v.two]
}

// valleys yields all valleys, in lexicographic order.
func (l line) valleys(yield func(valley) bool) {
	for one := range l.readings {
		for two := one + 1; two < len(l.readings); two++ {
			for three := two + 1; three < len(l.readings); three++ {
				if !yield(valley{one, two, three}) {
					return
				}
			}
		}
	}
}

// hollows returns all valleys whose depth is above 0. A line rises and falls if and only if there are none.
func (l line) hollows() []valley {
	var all []valley
search:
	for v := range l.valleys {
		for _, side := range [...]int{v.one, v.three} {
			if l.readings[side] <= l.readings[v.two] {
				continue search
			}
		}
		all = append(all, v)
	}
	return all
}

// deepest returns the first one of the deepest valleys, if the line does not rise and fall.
func (l line) deepest() (valley, bool) {
	all := l.hollows()
	if len(all) == 0 {
		return valley{}, false
	}
	deeper := func(one, two valley) bool { return l.depth(one) > l.depth(two) }
	return best(deeper, all[0], all[1:]...), true
}

// even returns the even change: so that the sides of a valley are not above its bottom, one of the three must change by half of its depth.
func (l line) even() int64 {
	v, ok := l.deepest()
	if !ok {
		return 0
	}
	return (l.depth(v) + 1) / 2
}

// changes returns the greatest change and the sum of a curve that is as long.
func (l line) changes(curve []int64) (int64, int64) {
	var greatest, sum int64
	for place, reading := range l.readings {
		by := difference(reading, curve[place])
		greatest, sum = max(greatest, by), sum+by
	}
	return greatest, sum
}

// difference returns the difference of two numbers, without its sign.
func difference(one, two int64) int64 { return max(one-two, two-one) }

// best returns the first one of several that no other one is better than.
func best[T any](better func(one, two T) bool, first T, others ...T) T {
	top := first
	for _, other := range others {
		if better(other, top) {
			top = other
		}
	}
	return top
}
