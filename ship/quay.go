package ship

import (
	"cmp"
	"slices"

	"senvy/api"
)

// shorter reports whether a list is shorter than another one, or as long and comes before it.
func shorter(list, other []int) bool {
	return cmp.Or(cmp.Compare(len(list), len(other)), slices.Compare(list, other)) < 0
}

// without returns the hold of a load without some boxes, with nothing stowed in it.
func (h hold) without(boxes []int) hold {
	var others []api.ShipBox
	for index, box := range h.Boxes {
		if !slices.Contains(boxes, index) {
			others = append(others, box)
		}
	}
	return hold{ShipLoad: api.ShipLoad{Boxes: others, Stacks: h.Stacks, Floor: h.Floor}}
}

// lists returns all strictly increasing lists of boxes; the last one has all boxes.
func (h hold) lists() [][]int {
	lists := [][]int{nil}
	for box := range h.Boxes {
		var more [][]int
		for _, list := range lists {
			more = append(more, grown(list, box))
		}
		lists = append(lists, more...)
	}
	return lists
}

// left returns the best left boxes. It tries all lists of boxes, as there are few.
func (h hold) left() []int {
	lists := h.lists()
	chosen := lists[len(lists)-1]
	for _, list := range lists {
		if _, n := h.without(list).fewest(); n <= h.Stacks {
			chosen = best(shorter, chosen, list)
		}
	}
	return chosen
}

// before returns whether a box goes out before another one (below 0) or after it (above 0): first by their ports, then by their stacks; of one stack the box that came last goes out first.
func (h hold) before(box, other int) int {
	return cmp.Or(
		cmp.Compare(h.Boxes[box].Port, h.Boxes[other].Port),
		cmp.Compare(h.stow[box], h.stow[other]),
		cmp.Compare(other, box),
	)
}

// out returns all boxes of the smooth stow in the order in which they go out.
func (h hold) out() []int {
	var boxes []int
	for box := range h.Boxes {
		boxes = append(boxes, box)
	}
	slices.SortFunc(boxes, h.before)
	return boxes
}
