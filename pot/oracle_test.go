package pot_test

import "senvy/api"

// having returns the lots that have a pot.
func having(r api.PotRow, p int) []int {
	var lots []int
	for lot, pots := range r.Lots {
		if pots.Lo <= int64(p) && int64(p) <= pots.Hi {
			lots = append(lots, lot)
		}
	}
	return lots
}

// hasBoth tells whether some lot has both of two pots.
func hasBoth(r api.PotRow, one, two int) bool {
	for _, lot := range having(r, one) {
		for _, other := range having(r, two) {
			if lot == other {
				return true
			}
		}
	}
	return false
}

// missed returns the weak pots that no lot has.
func missed(r api.PotRow) []int {
	var pots []int
	for _, p := range r.Weak {
		if len(having(r, p)) == 0 {
			pots = append(pots, p)
		}
	}
	return pots
}

// explains tells whether each weak pot is had by one of some lots.
func explains(r api.PotRow, lots []int) bool {
	for _, p := range r.Weak {
		had := false
		for _, lot := range lots {
			had = had || r.Lots[lot].Lo <= int64(p) && int64(p) <= r.Lots[lot].Hi
		}
		if !had {
			return false
		}
	}
	return true
}

// callsBack counts the pots of some lots, those that two of them have twice.
func callsBack(r api.PotRow, lots []int) int {
	n := 0
	for _, lot := range lots {
		for range r.Lots[lot].Hi - r.Lots[lot].Lo + 1 {
			n++
		}
	}
	return n
}

// comesFirst tells whether a list comes before another one in lexicographic order.
func comesFirst(list, other []int) bool {
	for i := range list {
		if i >= len(other) {
			return false
		}
		if list[i] != other[i] {
			return list[i] < other[i]
		}
	}
	return len(list) < len(other)
}

// parts calls a function with each strictly increasing list of elements of a list.
func parts(list []int, visit func(part []int)) {
	for set := range 1 << len(list) {
		var part []int
		for i, n := range list {
			if set>>i&1 == 1 {
				part = append(part, n)
			}
		}
		visit(part)
	}
}

// upTo returns the numbers from 0 to n - 1.
func upTo(n int) []int {
	var list []int
	for i := range n {
		list = append(list, i)
	}
	return list
}

// answer is what there is to tell of a row that can be explained.
type answer struct {
	least  int
	lots   []int
	fewest int
	blame  []int
}

// tryLots tries all lists of lots; false if none explains the row.
func tryLots(r api.PotRow) (answer, bool) {
	a := answer{least: 1 << 20, fewest: 1 << 20}
	var cheapest [][]int
	parts(upTo(len(r.Lots)), func(lots []int) {
		if !explains(r, lots) {
			return
		}
		a.fewest = min(a.fewest, len(lots))
		n := callsBack(r, lots)
		if n < a.least {
			a.least, cheapest = n, nil
		}
		if n == a.least {
			cheapest = append(cheapest, lots)
		}
	})
	if len(cheapest) == 0 {
		return answer{}, false
	}
	a.lots = cheapest[0]
	in := make([]int, len(r.Lots))
	for _, lots := range cheapest {
		if comesFirst(lots, a.lots) {
			a.lots = lots
		}
		for _, lot := range lots {
			in[lot]++
		}
	}
	for _, n := range in {
		switch n {
		case 0:
			a.blame = append(a.blame, api.PotNever)
		case len(cheapest):
			a.blame = append(a.blame, api.PotAlways)
		default:
			a.blame = append(a.blame, api.PotMay)
		}
	}
	return a, true
}

// areApart tells whether no lot has two of some pots.
func areApart(r api.PotRow, pots []int) bool {
	for _, lot := range r.Lots {
		n := 0
		for _, p := range pots {
			if lot.Lo <= int64(p) && int64(p) <= lot.Hi {
				n++
			}
		}
		if n > 1 {
			return false
		}
	}
	return true
}

// tryApart tries all lists of weak pots.
func tryApart(r api.PotRow) []int {
	var longest []int
	parts(r.Weak, func(pots []int) {
		if areApart(r, pots) && (len(pots) > len(longest) || len(pots) == len(longest) && comesFirst(pots, longest)) {
			longest = pots
		}
	})
	return longest
}

// areRight tells whether the prices of the weak pots of each lot are together at most its size.
func areRight(r api.PotRow, prices []int) bool {
	for lot := range r.Lots {
		n := 0
		for i, p := range r.Weak {
			if r.Lots[lot].Lo <= int64(p) && int64(p) <= r.Lots[lot].Hi {
				n += prices[i]
			}
		}
		if n > callsBack(r, []int{lot}) {
			return false
		}
	}
	return true
}

// tryPrices tries all prices up to one, and returns the most that right ones prove.
func tryPrices(r api.PotRow, highest int) int {
	most := 0
	prices := make([]int, len(r.Weak))
	var fill func(at, sum int)
	fill = func(at, sum int) {
		if at == len(prices) {
			if areRight(r, prices) {
				most = max(most, sum)
			}
			return
		}
		for price := range highest + 1 {
			prices[at] = price
			fill(at+1, sum+price)
		}
	}
	fill(0, 0)
	return most
}

// tryFellows tries all pots.
func tryFellows(r api.PotRow, p int) []int {
	var list []int
	for other := range r.Pots {
		if other != p && hasBoth(r, p, other) {
			list = append(list, other)
		}
	}
	return list
}
