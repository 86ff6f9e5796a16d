package taste

import "senvy/api"

// The bounds of what a book can contain.
var (
	rates  = api.Range{Lo: 0, Hi: api.MaxTasteRate}
	lots   = api.Range{Lo: 1, Hi: api.MaxTasteLots}
	saids  = api.Range{Lo: -api.MaxTasteSharp, Hi: api.MaxTasteSharp}
	sharps = api.Range{Lo: 0, Hi: api.MaxTasteSharp}
)

// within reports whether all numbers are within a range.
func within(r api.Range, numbers ...int64) bool {
	for _, n := range numbers {
		if n < r.Lo || n > r.Hi {
			return false
		}
	}
	return true
}

// valid reports whether a range is one, and within another one.
func valid(r, limits api.Range) bool {
	return r.Lo <= r.Hi && within(limits, r.Lo, r.Hi)
}

// countsFit reports whether a book has as many lots, sittings and tastes as it can have.
func countsFit(b api.TasteBook) bool {
	all := 0
	for _, sitting := range b.Sittings {
		if len(sitting) == 0 {
			return false
		}
		all += len(sitting)
	}
	return within(lots, int64(b.Lots)) && len(b.Sittings) <= api.MaxTasteSittings && all <= api.MaxTastes
}

// tastesFit reports whether each taste is of a lot of the book, and says what can be said.
func tastesFit(b api.TasteBook) bool {
	for _, sitting := range b.Sittings {
		for _, taste := range sitting {
			if taste.Lot < 0 || taste.Lot >= b.Lots || !valid(taste.Said, saids) {
				return false
			}
		}
	}
	return true
}

// checkLots returns the error of a book, or of numbers of which one is no lot of it.
func checkLots(b api.TasteBook, named ...int) api.Errno {
	if err := CheckBook(b); err != api.OK {
		return err
	}
	for _, lot := range named {
		if lot < 0 || lot >= b.Lots {
			return api.ErrArg
		}
	}
	return api.OK
}
