package pot

// weakPot is a weak pot: its index in Weak, and its name.
type weakPot struct {
	index, pot int
}

// tariff is the prices of weak pots; one that is not there costs nothing.
type tariff map[weakPot]int

// set gives a weak pot a price.
func (t tariff) set(p weakPot, price int) {
	t[p] = price
	if price == 0 {
		delete(t, p)
	}
}

// tariff returns the tariff of a price for each weak pot.
func (s shelf) tariff(prices []int) tariff {
	t := tariff{}
	for index, pot := range s.Weak {
		t.set(weakPot{index, pot}, prices[index])
	}
	return t
}

// list returns the price of each weak pot.
func (s shelf) list(t tariff) []int {
	var prices []int
	for index, pot := range s.Weak {
		prices = append(prices, t[weakPot{index, pot}])
	}
	return prices
}

// allows returns how much more the weak pots of a lot could cost; below 0 if they cost too much.
func (s shelf) allows(t tariff) func(lot int) int {
	return func(lot int) int {
		still := s.size(lot)
		for p, price := range t {
			if s.has(lot, p.pot) {
				still -= price
			}
		}
		return still
	}
}

// right reports whether the prices of a tariff are right.
func (s shelf) right(t tariff) bool {
	still := s.allows(t)
	for lot := range s.Lots {
		if still(lot) < 0 {
			return false
		}
	}
	return true
}

// proof returns a tariff that proves what the best explanation calls back: each weak pot costs by how much more is called back with it than without it and those after it.
//
// It is right: to explain the weak pots up to the last one of a lot, it is enough to explain those before its first one, and to take the lot.
func (s shelf) proof() tariff {
	t := tariff{}
	back := s.sums(s.sizes())
	for index, pot := range s.Weak {
		t.set(weakPot{index, pot}, back[index+1]-back[index])
	}
	return t
}
