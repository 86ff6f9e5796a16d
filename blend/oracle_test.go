package blend_test

import (
	"cmp"
	"math/big"
	"slices"

	"senvy/api"
)

// mixture returns the price of the mixture of two lots that is just so sharp, if there is one.
func mixture(one, two api.BlendLot, sharp *big.Rat) *big.Rat {
	if one.Sharp == two.Sharp {
		if sharp.Cmp(whole(one.Sharp)) != 0 {
			return nil
		}
		return whole(min(one.Price, two.Price))
	}
	share := new(big.Rat).Sub(sharp, whole(two.Sharp))
	share.Quo(share, whole(one.Sharp-two.Sharp))
	if share.Sign() < 0 || share.Cmp(whole(1)) > 0 {
		return nil
	}
	price := new(big.Rat).Mul(share, whole(one.Price-two.Price))
	return price.Add(price, whole(two.Price))
}

// less returns the lesser one of two prices, of which one or both may not be there.
func less(one, two *big.Rat) *big.Rat {
	if one == nil || two != nil && two.Cmp(one) < 0 {
		return two
	}
	return one
}

// tryMixtures tries all mixtures of two lots that are just so sharp: of more than two no mixture is cheaper than the cheapest one of two.
func tryMixtures(l []api.BlendLot, sharp *big.Rat) *big.Rat {
	var least *big.Rat
	for i, one := range l {
		for _, two := range l[:i+1] {
			least = less(least, mixture(one, two, sharp))
		}
	}
	return least
}

// tryFrom tries the mixtures that are at least so sharp: the cheapest one is just so sharp, or a lot.
func tryFrom(l []api.BlendLot, sharp int64) *big.Rat {
	least := tryMixtures(l, whole(sharp))
	for _, lot := range l {
		if lot.Sharp >= sharp {
			least = less(least, whole(lot.Price))
		}
	}
	return least
}

// without returns lots less those that a function tells.
func without(l []api.BlendLot, drop func(api.BlendLot) bool) []api.BlendLot {
	return slices.DeleteFunc(slices.Clone(l), drop)
}

// isCorner tells whether a lot is a corner, straight from the definition.
func isCorner(l []api.BlendLot, i int) bool {
	lot := l[i]
	price := whole(lot.Price)
	if slices.Index(l, lot) != i || tryMixtures(l, whole(lot.Sharp)).Cmp(price) != 0 {
		return false
	}
	then := tryMixtures(without(l, func(other api.BlendLot) bool { return other == lot }), whole(lot.Sharp))
	return then == nil || then.Cmp(price) > 0
}

// tryCorners looks at each lot.
func tryCorners(l []api.BlendLot) []int {
	var out []int
	for i := range l {
		if isCorner(l, i) {
			out = append(out, i)
		}
	}
	slices.SortFunc(out, func(i, j int) int { return cmp.Compare(l[i].Sharp, l[j].Sharp) })
	return out
}

// tryIdle looks at each lot.
func tryIdle(l []api.BlendLot) []int {
	var out []int
	for i, lot := range l {
		if tryMixtures(l, whole(lot.Sharp)).Cmp(whole(lot.Price)) < 0 {
			out = append(out, i)
		}
	}
	return out
}

// tryDays counts the days one by one.
func tryDays(l []api.BlendLot, sharp, loss int64) (int64, api.Errno) {
	_, high := ends(l)
	if high < sharp {
		return 0, api.ErrBlend
	}
	var days int64
	for high-(days+1)*loss >= sharp {
		days++
	}
	return days, api.OK
}

// height returns what a line is at a sharpness.
func height(b api.BlendLine, sharp *big.Rat) *big.Rat {
	out := new(big.Rat).Mul(whole(b.Step), sharp)
	out.Add(out, whole(b.Start))
	return out.Quo(out, whole(b.Den))
}

// liesBelow tells whether a line is at no lot above its price.
func liesBelow(l []api.BlendLot, b api.BlendLine) bool {
	return !slices.ContainsFunc(l, func(lot api.BlendLot) bool {
		return height(b, whole(lot.Sharp)).Cmp(whole(lot.Price)) > 0
	})
}

// isLine tells whether a line is valid.
func isLine(b api.BlendLine) bool {
	const most = 1 << 20
	return b.Den >= 1 && b.Den <= 100 && b.Start >= -most && b.Start <= most && b.Step >= -most && b.Step <= most
}

// checkLine does what CheckLine of valid lots and a valid sharpness has to do.
func checkLine(l []api.BlendLot, b api.BlendLine, sharp int64) (api.Ratio, api.Errno) {
	switch {
	case !isLine(b):
		return api.Ratio{}, api.ErrRange
	case !liesBelow(l, b):
		return api.Ratio{}, api.ErrRule
	}
	return ratio(height(b, whole(sharp))), api.OK
}

// averages returns the sharpness and the price of a blend.
func averages(l []api.BlendLot, parts []int64) (*big.Rat, *big.Rat) {
	sharp, price, all := new(big.Rat), new(big.Rat), new(big.Rat)
	for i, lot := range l {
		sharp.Add(sharp, whole(parts[i]*lot.Sharp))
		price.Add(price, whole(parts[i]*lot.Price))
		all.Add(all, whole(parts[i]))
	}
	return sharp.Quo(sharp, all), price.Quo(price, all)
}

// everyBlend calls a function with all blends of so many lots, with parts up to a greatest one.
func everyBlend(lots int, most int64, visit func(parts []int64)) {
	parts := make([]int64, lots)
	var fill func(lot int, some bool)
	fill = func(lot int, some bool) {
		if lot == lots {
			if some {
				visit(parts)
			}
			return
		}
		for n := range most + 1 {
			parts[lot] = n
			fill(lot+1, some || n > 0)
		}
	}
	fill(0, false)
}
