package blend

import "senvy/api"

// The bounds of what lots, blends and lines can contain.
var (
	counts = api.Range{Lo: 1, Hi: api.MaxBlendLots}
	sharps = api.Range{Lo: 0, Hi: api.MaxBlendSharp}
	prices = api.Range{Lo: 0, Hi: api.MaxBlendPrice}
	shares = api.Range{Lo: 0, Hi: api.MaxBlendPart}
	losses = api.Range{Lo: 1, Hi: api.MaxBlendSharp}
	dens   = api.Range{Lo: 1, Hi: api.MaxBlendDen}
	terms  = api.Range{Lo: -api.MaxBlendLine, Hi: api.MaxBlendLine}
)

// within reports whether all numbers are within a range.
func within(r api.Range, numbers ...int64) bool {
	for _, n := range numbers {
		if n < r.Lo || n > r.Hi {
			return false
		}
	}
	return true
}

// lotsFit reports whether each lot is as sharp, and costs as much, as one can.
func lotsFit(lots []api.BlendLot) bool {
	for _, lot := range lots {
		if !within(sharps, lot.Sharp) || !within(prices, lot.Price) {
			return false
		}
	}
	return true
}

// checkSharp returns the error of lots, or of a sharpness.
func checkSharp(lots []api.BlendLot, sharp int64) api.Errno {
	if err := CheckLots(lots); err != api.OK {
		return err
	}
	if !within(sharps, sharp) {
		return api.ErrRange
	}
	return api.OK
}

// valid reports whether a line is valid.
func valid(line api.BlendLine) bool {
	return within(dens, line.Den) && within(terms, line.Start, line.Step)
}
