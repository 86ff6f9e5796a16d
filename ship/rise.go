package ship

import (
	"cmp"
	"slices"
)

// longer reports whether a list is longer than another one, or as long and comes before it.
func longer(list, other []int) bool {
	return cmp.Or(cmp.Compare(len(other), len(list)), slices.Compare(list, other)) < 0
}

// rise reports whether boxes rise; their list is strictly increasing.
func (h hold) rise(boxes []int) bool {
	for i := 1; i < len(boxes); i++ {
		if !h.sooner(boxes[i-1], boxes[i]) {
			return false
		}
	}
	return true
}

// rising returns the first one of the longest lists of boxes that rise.
//
// Of the lists that end with a box, the first one of the longest is that of a box before it, on which it cannot lie, and the box.
func (h hold) rising() []int {
	var ends [][]int
	for box := range h.Boxes {
		can := h.canLie(box)
		var before []int
		for other, list := range ends {
			if !can(other) {
				before = best(longer, before, list)
			}
		}
		ends = append(ends, grown(before, box))
	}
	return best(longer, nil, ends...)
}
