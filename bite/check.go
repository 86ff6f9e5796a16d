package bite

import "senvy/api"

// The bounds of what rows, curves and searches can contain.
var (
	lengths   = api.Range{Lo: 1, Hi: api.MaxBiteRow}
	values    = api.Range{Lo: 0, Hi: api.MaxBiteValue}
	distances = api.Range{Lo: 0, Hi: api.MaxBiteSide}
	wholes    = api.Range{Lo: 1, Hi: api.MaxBiteWhole}
)

// within reports whether all numbers are within a range.
func within(r api.Range, numbers ...int64) bool {
	for _, n := range numbers {
		if n < r.Lo || n > r.Hi {
			return false
		}
	}
	return true
}
