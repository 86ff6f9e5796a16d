package ship

// top is the topmost box of a stack: its index, and its port.
type top struct {
	box, port int
}

// piles is the numbers of the stacks that have boxes, by their tops.
type piles map[top]int

// top returns a box as the topmost one of a stack.
func (h hold) top(box int) top { return top{box, h.Boxes[box].Port} }

// best returns the first one of several that no other one is better than.
func best[T any](better func(one, two T) bool, first T, others ...T) T {
	chosen := first
	for _, other := range others {
		if better(other, chosen) {
			chosen = other
		}
	}
	return chosen
}

// open returns the topmost boxes on which a box can lie, in the order in which they came.
func (h hold) open(p piles, box int) []int {
	var boxes []int
	for under := range h.under(box) {
		if _, ok := p[h.top(under)]; ok {
			boxes = append(boxes, under)
		}
	}
	return boxes
}

// put puts a box on the open one whose port comes first, or else into a new stack, and returns the number of the stack.
func (h hold) put(p piles, box int) int {
	stack := len(p)
	if open := h.open(p, box); len(open) > 0 {
		under := h.top(best(h.sooner, open[0], open[1:]...))
		stack = p[under]
		delete(p, under)
	}
	p[h.top(box)] = stack
	return stack
}

// fewest returns a smooth stow with as few stacks as can be, and how many these are.
//
// The ports of the tops rise from stack to stack: so when a box went into a stack, the top of the stack before it had a lesser port.
// From the last stack back to the first there are boxes that rise, one of each stack, and no two of them can be in one stack of any smooth stow.
func (h hold) fewest() ([]int, int) {
	p := piles{}
	var stow []int
	for box := range h.Boxes {
		stow = append(stow, h.put(p, box))
	}
	return stow, len(p)
}
