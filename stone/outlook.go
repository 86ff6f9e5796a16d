package stone

import (
	"slices"

	"senvy/api"
)

// amount is how much can be ground, if the stones can go on at all.
type amount struct {
	pounds int64
	can    bool
}

// more reports whether an amount is more than another one.
func (a amount) more(other amount) bool {
	return a.can && (!other.can || a.pounds > other.pounds)
}

// outlook is how much can be ground from each heat on; Worth needs a heat more than a mill can have.
type outlook [api.MaxStoneHeat + 2]amount

// none returns the outlook of a mill that can go on from no heat.
func none() outlook { return outlook{} }

// after returns how much can be ground with a choice and from then on.
func (o outlook) after(c choice) amount {
	from := o[c.end.heat]
	return amount{from.pounds + c.pounds, from.can}
}

// outlooks returns the outlook at the beginning of each hour, and that at the end of the last one.
func (b bench) outlooks() []outlook {
	var bounds outlook
	for heat := range b.Limit + 1 {
		bounds[heat].can = true
	}
	all := []outlook{bounds}
	for hour := len(b.Hours) - 1; hour >= 0; hour-- {
		clear(bounds[:])
		for heat := range b.Limit + 1 {
			for c := range b.choices(moment{hour, heat}) {
				if !b.tooWarm(c.end) {
					bounds[heat] = best(amount.more, bounds[heat], all[len(all)-1].after(c))
				}
			}
		}
		all = append(all, bounds)
	}
	slices.Reverse(all)
	return all
}

// most returns how much the best plan grinds, if there is one.
func (b bench) most() (int64, bool) {
	// A room that is too warm is so for stones of each heat; otherwise they can rest. So there is a plan from all heats, or from none.
	first := b.outlooks()[0]
	if first == none() {
		return 0, false
	}
	return first[b.Start].pounds, true
}

// row returns the numbers of an outlook for all heats up to a limit.
func (o outlook) row(limit int64) []int64 {
	var out []int64
	for _, a := range o[:limit+1] {
		out = append(out, a.pounds)
	}
	return out
}

// right reports whether a table of the right shape is right.
func (b bench) right(table [][]int64) bool {
	for hour := range b.Hours {
		for heat, bound := range table[hour] {
			for c := range b.choices(moment{hour, int64(heat)}) {
				if !b.tooWarm(c.end) && bound < c.pounds+table[hour+1][c.end.heat] {
					return false
				}
			}
		}
	}
	return true
}
