package ship

import "senvy/api"

// within reports whether all numbers are from lo to hi.
func within[T int | int64](lo, hi T, numbers ...T) bool {
	for _, n := range numbers {
		if n < lo || n > hi {
			return false
		}
	}
	return true
}

// boxesFit reports whether each box is as a box can be.
func boxesFit(l api.ShipLoad) bool {
	for _, box := range l.Boxes {
		if !within(1, api.MaxShipPort, box.Port) || !within(1, api.MaxShipWeight, box.Weight) {
			return false
		}
	}
	return true
}

// increasing reports whether a list is strictly increasing.
func increasing(list []int) bool {
	for i := 1; i < len(list); i++ {
		if list[i] <= list[i-1] {
			return false
		}
	}
	return true
}

// held returns the hold of a load, if it is valid; nothing is stowed in it.
func held(l api.ShipLoad) (hold, api.Errno) {
	if err := CheckLoad(l); err != api.OK {
		return hold{}, err
	}
	return hold{ShipLoad: l}, api.OK
}

// stowed returns the hold of a load with a stow of all boxes, if the load is valid and the stow is smooth.
func stowed(l api.ShipLoad, stow []int) (hold, api.Errno) {
	h, err := held(l)
	switch {
	case err != api.OK:
		return hold{}, err
	case len(stow) != len(l.Boxes):
		return hold{}, api.ErrEqual
	case !within(0, l.Stacks-1, stow...):
		return hold{}, api.ErrArg
	}
	h = h.stowed(stow)
	if !h.smooth() {
		return hold{}, api.ErrShip
	}
	return h, api.OK
}
