package pot

import (
	"cmp"
	"slices"

	"senvy/api"
)

// costs is what each lot costs, if it is in an explanation.
type costs []int

// costs returns what a function tells of each lot.
func (s shelf) costs(of func(lot int) int) costs {
	var c costs
	for lot := range s.Lots {
		c = append(c, of(lot))
	}
	return c
}

// sizes returns costs by which the cheapest explanation is one that calls back the fewest.
func (s shelf) sizes() costs { return s.costs(s.size) }

// ones returns costs by which the cheapest explanation is a shortest one.
func (s shelf) ones() costs {
	return s.costs(func(int) int { return 1 })
}

// changed returns costs of which that of one lot is another one.
func (c costs) changed(lot, by int) costs {
	out := make(costs, len(c))
	copy(out, c)
	out[lot] += by
	return out
}

// sum returns the sum of all numbers.
func sum(numbers ...int) int {
	all := 0
	for _, n := range numbers {
		all += n
	}
	return all
}

// explanation is lots that explain some weak pots, increasing, and what they cost together.
type explanation struct {
	lots []int
	cost int
}

// with returns an explanation with one more lot.
func (e explanation) with(lot, cost int) explanation {
	n := len(e.lots)
	// Several explanations are made of one, so each must grow in new memory.
	lots := append(e.lots[:n:n], lot)
	slices.Sort(lots)
	return explanation{lots, e.cost + cost}
}

// better reports whether an explanation is cheaper than another one, or as cheap and comes before it.
func (e explanation) better(other explanation) bool {
	return cmp.Or(cmp.Compare(e.cost, other.cost), slices.Compare(e.lots, other.lots)) < 0
}

// best returns the first one of several that no other one is better than.
func best[T any](better func(one, two T) bool, first T, others ...T) T {
	top := first
	for _, other := range others {
		if better(other, top) {
			top = other
		}
	}
	return top
}

// explanations returns the best explanation of no weak pot, of the first one, of the first two, and so on; nothing if not all of them can be explained.
//
// Some lot has the last one of these weak pots. It has all of them that are not before its first pot, so it needs only the best explanation of those before it.
// Which one of two lists comes first stays so if both get one more lot, for neither begins with the other one: they cost the same, and each lot costs something.
// (For blame a lot can cost nothing, but there it does not matter which list comes first.)
func (s shelf) explanations(c costs) []explanation {
	all := []explanation{{}}
	for _, pot := range s.Weak {
		var some []explanation
		for lot := range s.having(pot) {
			some = append(some, all[s.before(lot)].with(lot, c[lot]))
		}
		if len(some) == 0 {
			return nil
		}
		all = append(all, best(explanation.better, some[0], some[1:]...))
	}
	return all
}

// cheapest returns the best explanation of all weak pots; there is one.
func (s shelf) cheapest(c costs) explanation {
	all := s.explanations(c)
	return all[len(all)-1]
}

// sums is what the best explanations of the first weak pots cost, by how many these are.
type sums [api.MaxPotWeak + 1]int

// none returns the sums of a row that cannot be explained: in others it costs nothing to explain no weak pot.
func none() sums { return sums{-1} }

// sums returns what it costs to explain the first weak pots, or none if not all of them can be explained.
func (s shelf) sums(c costs) sums {
	all := s.explanations(c)
	if len(all) == 0 {
		return none()
	}
	var out sums
	for n, e := range all {
		out[n] = e.cost
	}
	return out
}

// blame returns when a lot is to blame.
//
// If all explanations that call back the fewest have it, they would call back more if it were larger by a pot.
// If some have it, these would call back less if it were smaller by a pot.
func (s shelf) blame(lot int) int {
	sizes := s.sizes()
	least := s.cheapest(sizes).cost
	switch {
	case s.cheapest(sizes.changed(lot, 1)).cost > least:
		return api.PotAlways
	case s.cheapest(sizes.changed(lot, -1)).cost < least:
		return api.PotMay
	}
	return api.PotNever
}
