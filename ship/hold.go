package ship

import (
	"iter"
	"slices"

	"senvy/api"
)

// weights is what each stack weighs.
type weights [api.MaxShipStacks]int64

// none returns the weights of a stow of which some stack weighs too much: those of others are not below 0.
func none() weights { return weights{-1} }

// used returns how many stacks have boxes, as each box weighs something.
func (w weights) used() int {
	n := 0
	for _, weight := range w {
		if weight > 0 {
			n++
		}
	}
	return n
}

// hold is a valid load, a stow of its first boxes, and the weights of this stow.
type hold struct {
	api.ShipLoad
	stow    []int
	weights weights
}

// stowed returns the hold with another stow.
func (h hold) stowed(stow []int) hold {
	h.stow = make([]int, len(stow))
	copy(h.stow, stow)
	clear(h.weights[:])
	for box, stack := range stow {
		h.weights[stack] += h.Boxes[box].Weight
	}
	if slices.Max(h.weights[:]) > h.Floor {
		h.weights = none()
	}
	return h
}

// sooner reports whether the port of a box comes before that of another one.
func (h hold) sooner(box, other int) bool { return h.Boxes[box].Port < h.Boxes[other].Port }

// canLie returns whether a box can lie on another one, if that came before it.
func (h hold) canLie(box int) func(under int) bool {
	return func(under int) bool { return !h.sooner(under, box) }
}

// under yields the boxes that came before a box, and on which it can lie.
func (h hold) under(box int) iter.Seq[int] {
	can := h.canLie(box)
	return func(yield func(int) bool) {
		for other := range box {
			if can(other) && !yield(other) {
				return
			}
		}
	}
}

// smooth reports whether the stow is smooth.
func (h hold) smooth() bool {
	for box, stack := range h.stow {
		can := h.canLie(box)
		for other, at := range h.stow[:box] {
			if at == stack && !can(other) {
				return false
			}
		}
	}
	return true
}

// good reports whether the stow is good.
func (h hold) good() bool { return h.smooth() && h.weights != none() }
