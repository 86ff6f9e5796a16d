package sieve

import (
	"slices"

	"senvy/api"
)

// The bounds of what tables and proofs can contain.
var (
	lengths = api.Range{Lo: 1, Hi: api.MaxSieveSide}
	counts  = api.Range{Lo: 0, Hi: api.MaxSieveCell}
	sums    = api.Range{Lo: 0, Hi: api.MaxSieveSum}
	sides   = api.Range{Lo: api.SieveColumns, Hi: api.SieveRows}
)

// within reports whether all numbers are within a range.
func within(r api.Range, numbers ...int64) bool {
	for _, n := range numbers {
		if n < r.Lo || n > r.Hi {
			return false
		}
	}
	return true
}

// valid reports whether all ranges are ones, and within another one.
func valid(limits api.Range, ranges ...api.Range) bool {
	for _, r := range ranges {
		if r.Lo > r.Hi || !within(limits, r.Lo, r.Hi) {
			return false
		}
	}
	return true
}

// indices returns the range of the indices of a list.
func indices[T any](list []T) api.Range {
	return api.Range{Lo: 0, Hi: int64(len(list)) - 1}
}

// shaped reports whether there is a list for each row of a table, with an element for each column.
func shaped[T any](t api.SieveTable, lists [][]T) bool {
	for _, list := range lists {
		if len(list) != len(t.Columns) {
			return false
		}
	}
	return len(lists) == len(t.Rows)
}

// rangesFit reports whether all ranges of a table are as they can be.
func rangesFit(t api.SieveTable) bool {
	return valid(sums, t.Rows...) && valid(sums, t.Columns...) && valid(counts, slices.Concat(t.Cells...)...)
}

// rising reports whether a list is strictly increasing, of numbers from 0 to n - 1.
func rising(list []int, n int) bool {
	last := -1
	for _, i := range list {
		if i <= last || i >= n {
			return false
		}
		last = i
	}
	return true
}
