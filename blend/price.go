package blend

import "senvy/api"

// ratio returns a fraction in least terms; den is above 0.
func ratio(num, den int64) api.Ratio {
	common, rest := den, max(num, -num)
	for rest != 0 {
		common, rest = rest, common%rest
	}
	return api.Ratio{Num: num / common, Den: den / common}
}

// has reports whether there is a price at all.
func has(price api.Ratio) bool { return price != api.Ratio{} }

// cheaper reports whether a price is less than another one, or the only one.
func cheaper(one, two api.Ratio) bool {
	return has(one) && (!has(two) || one.Num*two.Den < two.Num*one.Den)
}

// tariff is the cheapest price of each sharpness that can be had.
type tariff [api.MaxBlendSharp + 1]api.Ratio

// none returns the tariff of which nothing can be had.
func none() tariff { return tariff{} }

// from returns the tariff without all that is less sharp.
func (t tariff) from(sharp int64) tariff {
	clear(t[:sharp])
	return t
}

// best returns the first one of several that no other one is better than.
func best[T any](better func(one, two T) bool, first T, others ...T) T {
	top := first
	for _, other := range others {
		if better(other, top) {
			top = other
		}
	}
	return top
}
