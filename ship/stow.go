package ship

// grown returns a list with one more number.
func grown(list []int, number int) []int {
	// Several lists are made of one, so each must grow in new memory.
	n := len(list)
	return append(list[:n:n], number)
}

// with returns the hold with one more box, in a stack.
func (h hold) with(stack int) hold { return h.stowed(grown(h.stow, stack)) }

// tries returns the stacks in which it is enough to try the next box: of those without boxes, which are all alike, the first one.
func (h hold) tries() []int {
	var stacks []int
search:
	for stack := range h.Stacks {
		for other := range stack {
			if h.weights[stack] == 0 && h.weights[other] == 0 {
				continue search
			}
		}
		stacks = append(stacks, stack)
	}
	return stacks
}

// first returns the first good stow that begins with that of the hold; false if there is none.
func (h hold) first() ([]int, bool) {
	switch {
	case !h.good():
		return nil, false
	case len(h.stow) == len(h.Boxes):
		return h.stow, true
	}
	for _, stack := range h.tries() {
		if stow, ok := h.with(stack).first(); ok {
			return stow, true
		}
	}
	return nil, false
}

// choices returns the stacks to which the next box can go.
func (h hold) choices() []int {
	var stacks []int
	for stack := range h.Stacks {
		if _, ok := h.with(stack).first(); ok {
			stacks = append(stacks, stack)
		}
	}
	return stacks
}
