package blend

import "senvy/api"

// bound is a valid line; if it lies below the lots, no price is below it.
type bound struct {
	api.BlendLine
}

// through returns the line through two lots, of which the second one is sharper; the level line through one lot if it is given twice.
func through(left, right api.BlendLot) bound {
	den, step := max(right.Sharp-left.Sharp, 1), right.Price-left.Price
	return bound{api.BlendLine{Den: den, Start: left.Price*den - step*left.Sharp, Step: step}}
}

// at returns what a line is at a sharpness.
func (b bound) at(sharp int64) api.Ratio {
	return ratio(b.Start+b.Step*sharp, b.Den)
}

// below returns those of some lines that lie below the lots.
func (s stock) below(lines ...bound) []bound {
	var low []bound
search:
	for _, line := range lines {
		for _, lot := range s.lots {
			if cheaper(ratio(lot.Price, 1), line.at(lot.Sharp)) {
				continue search
			}
		}
		low = append(low, line)
	}
	return low
}

// proof returns a line that lies below the lots, with a Step of at least so much (not above 0), and is as high as can be at a sharpness.
//
// The line through the corners on both sides of a sharpness proves its cheapest price.
// If this is not the price at least, the level line through the cheapest corner proves that.
func (s shelf) proof(sharp, leastStep int64) api.BlendLine {
	var lines []bound
	for left, right := range s.neighbours {
		for _, line := range [...]bound{through(s.lots[left], s.lots[right]), through(s.lots[right], s.lots[right])} {
			if line.Step >= leastStep {
				lines = append(lines, line)
			}
		}
	}
	higher := func(one, two bound) bool { return cheaper(two.at(sharp), one.at(sharp)) }
	low := s.below(lines...)
	return best(higher, low[0], low[1:]...).BlendLine
}
