package stone

import (
	"maps"
	"slices"
)

// way is a plan for the first hours, and how much it grinds.
type way struct {
	plan   []int
	pounds int64
}

// then returns a way that goes on with a choice.
func (w way) then(c choice) way {
	// Ways share their beginnings, so each must grow in new memory.
	n := len(w.plan)
	return way{append(w.plan[:n:n], c.work), w.pounds + c.pounds}
}

// better reports whether a way grinds more than another one that is as long, or as much and comes before it.
func (w way) better(other way) bool {
	if w.pounds != other.pounds {
		return w.pounds > other.pounds
	}
	return slices.Compare(w.plan, other.plan) < 0
}

// ways are the moments that can be reached, with the best way to each.
type ways map[moment]way

// onward returns the ways that go on for an hour, but for those that get too warm in it.
func (b bench) onward(reached ways) ways {
	ends := ways{}
	// Of two different plans one is better, so it does not matter in which order the moments come.
	for at, w := range reached {
		for c := range b.choices(at) {
			longer := w.then(c)
			if known, ok := ends[c.end]; ok {
				longer = best(way.better, known, longer)
			}
			ends[c.end] = longer
		}
	}
	for at := range ends {
		if b.tooWarm(at) {
			delete(ends, at)
		}
	}
	return ends
}

// plan returns the best plan, if there is one.
//
// It is enough to know the best way to each moment: what begins with another one is bettered by what begins with that.
func (b bench) plan() ([]int, bool) {
	reached := ways{moment{0, b.Start}: way{}}
	for range b.Hours {
		reached = b.onward(reached)
	}
	whole := slices.Collect(maps.Values(reached))
	if len(whole) == 0 {
		return nil, false
	}
	return taken(best(way.better, whole[0], whole[1:]...).plan), true
}

// taken returns a copy of a list.
func taken(list []int) []int {
	out := make([]int, len(list))
	copy(out, list)
	return out
}
