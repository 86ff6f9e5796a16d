package farm

import (
	"iter"
	"maps"
	"slices"

	"senvy/api"
)

// claim is a farm that claims a coin as its first one (1), its second one (2), and so on.
type claim struct {
	farm int
	coin int64
}

// last returns the claim of a farm to the last coin that it has; to none if it has no coin.
func (p purse) last(farm int) claim { return claim{farm, p.shares[farm]} }

// more returns the claim of a farm to one coin more.
func (p purse) more(farm int) claim { return claim{farm, p.shares[farm] + 1} }

// worth returns what the coin of a claim is worth to its farm.
func (p purse) worth(c claim) api.Ratio { return ratio(p.Clean[c.farm], c.coin) }

// sooner reports whether a claim comes before another one, for its coin is worth more.
func (p purse) sooner(one, two claim) bool {
	return p.Clean[one.farm]*two.coin > p.Clean[two.farm]*one.coin
}

// best returns the first one of several that no other one is better than.
func best[T any](better func(one, two T) bool, first T, others ...T) T {
	chosen := first
	for _, other := range others {
		if better(other, chosen) {
			chosen = other
		}
	}
	return chosen
}

// next returns the claim that gets the next coin.
func (p purse) next() claim {
	claims := make([]claim, len(p.Clean))
	for farm := range claims {
		claims[farm] = p.more(farm)
	}
	return best(p.sooner, claims[0], claims[1:]...)
}

// worths yields what coins are worth to farms: to each farm the last one that it has, if it has any, and one more.
func (p purse) worths() iter.Seq2[claim, api.Ratio] {
	return func(yield func(claim, api.Ratio) bool) {
		for farm := range p.Clean {
			for _, c := range []claim{p.last(farm), p.more(farm)} {
				if c.coin > 0 && !yield(c, p.worth(c)) {
					return
				}
			}
		}
	}
}

// ledger is the worth of coins, by the claims to them.
type ledger map[claim]api.Ratio

// paid returns the worth of the last coin of each farm that has any.
func (p purse) paid() ledger {
	kept := ledger{}
	for c, worth := range p.worths() {
		kept[c] = worth
	}
	for farm := range p.Clean {
		delete(kept, p.more(farm))
	}
	return kept
}

// complains returns whether a farm can complain against another one, by the worth of the coins that are paid.
func (p purse) complains(farm int, paid ledger) func(other int) bool {
	more := p.worth(p.more(farm))
	return func(other int) bool {
		worth, ok := paid[p.last(other)]
		return ok && less(worth, more)
	}
}

// complaint returns the first farm that can complain, and the first one against which it can; false if there is none.
func (p purse) complaint() (int, int, bool) {
	paid := p.paid()
search:
	for farm := range p.Clean {
		complains := p.complains(farm, paid)
		other := 0
		for !complains(other) {
			other++
			if other == len(p.Clean) {
				continue search
			}
		}
		return farm, other, true
	}
	return 0, 0, false
}

// divisors returns the lower and the upper end of the divisors; false if there is no divisor.
func (p purse) divisors() (api.Ratio, api.Ratio, bool) {
	lower := p.worth(p.next())
	if p.shares == none() {
		return lower, ratio(0, 1), true
	}
	// Fractions in least terms that are equal are the same, so it does not matter in which order they come.
	worths := slices.Collect(maps.Values(p.paid()))
	upper := best(less, worths[0], worths[1:]...)
	return lower, upper, less(lower, upper)
}
