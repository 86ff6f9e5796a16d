package taste

import (
	"slices"

	"senvy/api"
)

// zeroName is the name of 0 itself; maxNames is how many names a book has at most.
const (
	zeroName = 0
	maxNames = 1 + api.MaxTasteLots + api.MaxTastes
)

// pair is two names: from one to another one.
type pair struct {
	from, to int
}

// back returns the same names the other way round.
func (p pair) back() pair { return pair{p.to, p.from} }

// tongue is a valid book, in which each lot and each taste has a name.
type tongue struct {
	api.TasteBook
}

// tastes returns how many tastes there are in all sittings.
func (t tongue) tastes() int {
	all := 0
	for _, sitting := range t.Sittings {
		all += len(sitting)
	}
	return all
}

func (t tongue) lotName(lot int) int     { return 1 + lot }
func (t tongue) tasteName(taste int) int { return 1 + t.Lots + taste }

// names returns how many names there are.
func (t tongue) names() int { return t.tasteName(t.tastes()) }

// ranges yields, for each two names that the book ties together, the range of the number of the second one, less that of the first one.
func (t tongue) ranges(yield func(pair, api.Range) bool) {
	for lot := range t.Lots {
		if !yield(pair{zeroName, t.lotName(lot)}, sharps) {
			return
		}
	}
	name := t.tasteName(0)
	for _, sitting := range t.Sittings {
		// A sitting begins with a rested tongue, as if it were tied to 0 by 0.
		last, tires := zeroName, api.Range{}
		for _, taste := range sitting {
			if !yield(pair{last, name}, tires) || !yield(pair{name, t.lotName(taste.Lot)}, taste.Said) {
				return
			}
			last, tires = name, t.Rate
			name++
		}
	}
}

// bounds yields each bound from one name to another one, always in the same order.
func (t tongue) bounds(yield func(pair, int64) bool) {
	for p, r := range t.ranges {
		if !yield(p, r.Hi) || !yield(p.back(), -r.Lo) {
			return
		}
	}
}

// allows reports whether the numbers of all lots and tastes are a truth.
func (t tongue) allows(sharp, tired []int64) bool {
	numbers := slices.Concat([]int64{0}, sharp, tired)
	// One number of each pair has been found small before the other one, so that a difference that overflows is within no range.
	for p, r := range t.ranges {
		if !within(r, numbers[p.to]-numbers[p.from]) {
			return false
		}
	}
	return true
}

// different reports whether all of a list are names of the book, each there once.
func (t tongue) different(list []int) bool {
	var seen [maxNames]bool
	for _, name := range list {
		if name < 0 || name >= t.names() || seen[name] {
			return false
		}
		seen[name] = true
	}
	return true
}
