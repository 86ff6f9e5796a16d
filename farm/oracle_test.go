package farm_test

import (
	"math/big"
	"slices"

	"senvy/api"
)

// rat returns a fraction of any size.
func rat(num, den int64) *big.Rat { return big.NewRat(num, den) }

// asRatio returns a fraction as the package tells it: those of big are in least terms.
func asRatio(r *big.Rat) api.Ratio {
	return api.Ratio{Num: r.Num().Int64(), Den: r.Denom().Int64()}
}

// floor and ceiling return a fraction, rounded down and up.
func floor(r *big.Rat) int64 { return new(big.Int).Div(r.Num(), r.Denom()).Int64() }

func ceiling(r *big.Rat) int64 { return -floor(new(big.Rat).Neg(r)) }

// sumOf returns the sum of all numbers.
func sumOf(list []int64) int64 {
	all := int64(0)
	for _, n := range list {
		all += n
	}
	return all
}

// quotaTried returns the quota of a farm.
func quotaTried(y api.FarmYear, index int) *big.Rat {
	return rat(y.Clean[index]*y.Price, sumOf(y.Clean))
}

// worthTried returns the number of a farm, divided by its share and 1, together.
func worthTried(y api.FarmYear, shares []int64, index int) *big.Rat {
	return rat(y.Clean[index], shares[index]+1)
}

// nextTried returns the farm to which the next coin goes.
func nextTried(y api.FarmYear, shares []int64) int {
	first := 0
	for i := range y.Clean {
		if worthTried(y, shares, i).Cmp(worthTried(y, shares, first)) > 0 {
			first = i
		}
	}
	return first
}

// fairTried makes the fair shares coin by coin.
func fairTried(y api.FarmYear) []int64 {
	shares := make([]int64, len(y.Clean))
	for range y.Price {
		index := nextTried(y, shares)
		shares[index]++
	}
	return shares
}

// complaintTried tries all farms against all other ones.
func complaintTried(y api.FarmYear, shares []int64) (int, int, bool) {
	for i := range shares {
		for j, share := range shares {
			if i != j && share > 0 && worthTried(y, shares, i).Cmp(rat(y.Clean[j], share)) > 0 {
				return i, j, true
			}
		}
	}
	return 0, 0, false
}

// isDivisor tells whether the share of each farm is its number divided by a fraction, rounded down.
func isDivisor(y api.FarmYear, shares []int64, divisor *big.Rat) bool {
	for i, clean := range y.Clean {
		if floor(new(big.Rat).Quo(rat(clean, 1), divisor)) != shares[i] {
			return false
		}
	}
	return true
}

// turns returns the fractions at which any share changes if the divisor grows, the least one first, and none twice.
func turns(y api.FarmYear) []*big.Rat {
	var all []*big.Rat
	for _, clean := range y.Clean {
		for coin := range y.Price + 1 {
			if clean > 0 {
				all = append(all, rat(clean, coin+1))
			}
		}
	}
	slices.SortFunc(all, (*big.Rat).Cmp)
	return slices.CompactFunc(all, func(one, two *big.Rat) bool { return one.Cmp(two) == 0 })
}

// divisorsTried tries the fractions at which shares change, and one above each of them and below the next one: between two such there is no change.
func divisorsTried(y api.FarmYear, shares []int64) (lower, upper api.Ratio, found bool) {
	all := turns(y)
	for i, turn := range all {
		above := new(big.Rat).Add(turn, rat(1, 1))
		if i+1 < len(all) {
			above.Add(turn, all[i+1]).Mul(above, rat(1, 2))
		}
		if isDivisor(y, shares, turn) {
			upper = asRatio(turn)
		}
		if isDivisor(y, shares, above) && !found {
			lower, found = asRatio(turn), true
		}
	}
	if found && y.Price == 0 {
		upper = by(0, 1)
	}
	return lower, upper, found
}

// nearTried gives the coins that are left one by one to the farm that was rounded down by most and has none of them.
func nearTried(y api.FarmYear) []int64 {
	shares := make([]int64, len(y.Clean))
	rest := make([]*big.Rat, len(y.Clean))
	for i := range shares {
		quota := quotaTried(y, i)
		shares[i] = floor(quota)
		rest[i] = new(big.Rat).Sub(quota, rat(shares[i], 1))
	}
	for sumOf(shares) < y.Price {
		most := 0
		for i := range rest {
			if rest[i].Cmp(rest[most]) > 0 {
				most = i
			}
		}
		shares[most]++
		rest[most] = rat(-1, 1)
	}
	return shares
}

// isNear tells whether each share is a quota, rounded down or up.
func isNear(y api.FarmYear, shares []int64) bool {
	for i, share := range shares {
		quota := quotaTried(y, i)
		if share != floor(quota) && share != ceiling(quota) {
			return false
		}
	}
	return true
}

// offTried returns what shares are off.
func offTried(y api.FarmYear, shares []int64) int64 {
	all := rat(0, 1)
	for i, share := range shares {
		gap := new(big.Rat).Sub(rat(share, 1), quotaTried(y, i))
		all.Add(all, gap.Abs(gap))
	}
	all.Mul(all, rat(sumOf(y.Clean), 1))
	return floor(all)
}

// allShares calls a function with all shares of a price; the shares that it gets go on to be changed.
func allShares(farms int, price int64, visit func(shares []int64)) {
	shares := make([]int64, farms)
	var fill func(index int, left int64)
	fill = func(index int, left int64) {
		if index == farms-1 {
			shares[index] = left
			visit(shares)
			return
		}
		for share := range left + 1 {
			shares[index] = share
			fill(index+1, left-share)
		}
	}
	fill(0, price)
}

// truths calls a function with all truths of a rough year; the truth that it gets goes on to be changed.
func truths(r api.FarmRough, visit func(y api.FarmYear)) {
	y := year(r.Price)
	var fill func()
	fill = func() {
		index := len(y.Clean)
		if index == len(r.Clean) {
			visit(y)
			return
		}
		for clean := r.Clean[index].Lo; clean <= r.Clean[index].Hi; clean++ {
			y.Clean = append(y.Clean, clean)
			fill()
			y.Clean = y.Clean[:index]
		}
	}
	fill()
}

// spansTried returns the least and the greatest fair share of each farm in all truths.
func spansTried(r api.FarmRough) []api.Range {
	spans := slices.Repeat([]api.Range{to(r.Price, 0)}, len(r.Clean))
	truths(r, func(y api.FarmYear) {
		for i, share := range fairTried(y) {
			spans[i] = to(min(spans[i].Lo, share), max(spans[i].Hi, share))
		}
	})
	return spans
}
