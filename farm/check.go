package farm

import "senvy/api"

// within reports whether all numbers are from lo to hi.
func within[T int | int64](lo, hi T, numbers ...T) bool {
	for _, n := range numbers {
		if n < lo || n > hi {
			return false
		}
	}
	return true
}

// sum returns the sum of all numbers.
func sum(numbers []int64) int64 {
	all := int64(0)
	for _, n := range numbers {
		all += n
	}
	return all
}

// opened returns the purse of a year, if it is valid; no coin is paid.
func opened(y api.FarmYear) (purse, api.Errno) {
	if err := CheckYear(y); err != api.OK {
		return purse{}, err
	}
	return purse{FarmYear: y}, api.OK
}

// filled returns the purse of a year with shares, if both are valid.
func filled(y api.FarmYear, shares []int64) (purse, api.Errno) {
	p, err := opened(y)
	switch {
	case err != api.OK:
		return purse{}, err
	case len(shares) != len(y.Clean):
		return purse{}, api.ErrEqual
	case !within(0, api.MaxFarmPrice, shares...):
		return purse{}, api.ErrRange
	case sum(shares) != y.Price:
		return purse{}, api.ErrSum
	}
	copy(p.shares[:], shares)
	return p, api.OK
}
