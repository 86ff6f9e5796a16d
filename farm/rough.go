package farm

import "senvy/api"

// rangesFit reports whether what was clean of each farm is a range as it can be.
func rangesFit(r api.FarmRough) bool {
	for _, clean := range r.Clean {
		if clean.Lo > clean.Hi || !within(0, api.MaxFarmClean, clean.Lo, clean.Hi) {
			return false
		}
	}
	return true
}

// bounds returns the least numbers that can be clean of the farms, and the greatest ones.
func bounds(r api.FarmRough) (lows, highs []int64) {
	for _, clean := range r.Clean {
		lows, highs = grown(lows, clean.Lo), grown(highs, clean.Hi)
	}
	return lows, highs
}

// span returns the least and the greatest fair share of a farm.
//
// A farm has the least if as little as can be was clean of it, and as much as can be of all others; it has the greatest the other way round.
func span(r api.FarmRough, farm int) api.Range {
	many, few := bounds(r)
	few[farm], many[farm] = many[farm], few[farm]
	p := purse{FarmYear: api.FarmYear{Price: r.Price, Clean: few}}.fair()
	least := p.shares[farm]
	p.Clean = many
	return api.Range{Lo: least, Hi: p.fair().shares[farm]}
}
