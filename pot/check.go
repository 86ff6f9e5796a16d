package pot

import "senvy/api"

// within reports whether all numbers are from lo to hi.
func within[T int | int64](lo, hi T, numbers ...T) bool {
	for _, n := range numbers {
		if n < lo || n > hi {
			return false
		}
	}
	return true
}

// lotsFit reports whether each lot is a valid range of pots.
func lotsFit(r api.PotRow) bool {
	for _, lot := range r.Lots {
		if lot.Lo > lot.Hi || !within(0, int64(r.Pots)-1, lot.Lo, lot.Hi) {
			return false
		}
	}
	return true
}

// rising reports whether a list is strictly increasing.
func rising(list []int) bool {
	for i := 1; i < len(list); i++ {
		if list[i] <= list[i-1] {
			return false
		}
	}
	return true
}

// explained returns the shelf of a row, if it is valid and can be explained.
func explained(r api.PotRow) (shelf, api.Errno) {
	if err := CheckRow(r); err != api.OK {
		return shelf{}, err
	}
	s := shelf{r}
	if s.sums(s.sizes()) == none() {
		return shelf{}, api.ErrPot
	}
	return s, api.OK
}
