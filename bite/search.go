package bite

import (
	"maps"
	"slices"
)

// sides is how many places a search has to the left of where it stands, and to the right.
type sides struct {
	left, right int
}

// found returns the sides of a search that stands at the peak.
func found() sides { return sides{} }

// places returns how many places the peak can be at.
func (s sides) places() int { return s.left + 1 + s.right }

// distances yields how far a search can taste next: below 0 to the left, above 0 to the right.
func (s sides) distances(yield func(far int) bool) {
	for far := -s.left; far <= s.right; far++ {
		if far != 0 && !yield(far) {
			return
		}
	}
}

// after returns the sides after a taste: if its value is greater, and if it is not.
func (s sides) after(far int) (sides, sides) {
	if far < 0 {
		return sides{s.left + far, -far - 1}, sides{-far - 1, s.right}
	}
	return sides{far - 1, s.right - far}, sides{s.left, far - 1}
}

// needs is what is needed, by the sides of a search, as far as it is known.
type needs map[sides]int

// taste is how far to taste, and what is needed after it.
type taste struct {
	far, need int
}

// next returns the first one of the tastes after which the least is needed. There are places on a side.
func (n needs) next(s sides) taste {
	all := make([]taste, 0, s.left+s.right)
	for far := range s.distances {
		greater, other := s.after(far)
		all = append(all, taste{far, max(n.of(greater), n.of(other))})
	}
	fewer := func(one, two taste) bool { return one.need < two.need }
	return best(fewer, all[0], all[1:]...)
}

// of returns what is needed, and takes note of it.
func (n needs) of(s sides) int {
	if s == found() {
		return 0
	}
	// What is needed stays if both sides are exchanged, so it is noted for one of the two only.
	s = sides{min(s.left, s.right), max(s.left, s.right)}
	need, known := n[s]
	if !known {
		need = 1 + n.next(s).need
		n[s] = need
	}
	return need
}

// tastes returns how many tastes are enough for a row of so many places.
func tastes(places int) int {
	if places == 1 {
		return 0
	}
	n := needs{}
	for first := range places {
		n.of(sides{first, places - 1 - first})
	}
	// What is needed later was noted too, but no search can stand like this after the first taste.
	for s := range n {
		if s.places() != places {
			delete(n, s)
		}
	}
	return 1 + slices.Min(slices.Collect(maps.Values(n)))
}
