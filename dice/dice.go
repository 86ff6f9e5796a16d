// Package dice throws numbers for the tests of the layers, the same ones in each run.
package dice

// Dice is what has been thrown so far; two that begin alike throw the same numbers.
type Dice uint64

// Below throws a number from 0 to n - 1; n is above 0.
func (d *Dice) Below(n int) int {
	*d = *d*6364136223846793005 + 1442695040888963407
	return int(uint64(*d) >> 33 % uint64(n))
}

// From throws a number from lo to hi.
func (d *Dice) From(lo, hi int64) int64 { return lo + int64(d.Below(int(hi-lo+1))) }
