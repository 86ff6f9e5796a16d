package blend

import (
	"cmp"
	"slices"

	"senvy/api"
)

// stock is valid lots.
type stock struct {
	lots []api.BlendLot
}

// shelf is lots with their corners, the least sharp one first.
type shelf struct {
	stock
	corners []int
}

// shelved returns the shelf of valid lots.
func shelved(lots []api.BlendLot) shelf {
	s := shelf{stock: stock{lots}}
	for _, lot := range s.ordered() {
		s.corners = s.cornered(s.corners, lot)
	}
	return s
}

// ordered returns all lots: the least sharp ones first, of these the cheapest ones, of these the first one.
func (s stock) ordered() []int {
	order := make([]int, len(s.lots))
	for lot := range order {
		order[lot] = lot
	}
	slices.SortStableFunc(order, func(one, two int) int {
		a, b := s.lots[one], s.lots[two]
		return cmp.Or(cmp.Compare(a.Sharp, b.Sharp), cmp.Compare(a.Price, b.Price))
	})
	return order
}

// cornered returns the corners of some lots and of the next one in their order (by the way of Andrew).
func (s stock) cornered(corners []int, next int) []int {
	n := len(corners)
	if n > 0 && s.lots[corners[n-1]].Sharp == s.lots[next].Sharp {
		return corners
	}
	for n > 1 && !sags(s.lots[corners[n-2]], s.lots[corners[n-1]], s.lots[next]) {
		n--
	}
	// The corners that were given stay as they are, so these must grow in new memory.
	return append(corners[:n:n], next)
}

// sags reports whether the middle one of three lots, each sharper than the one before, is cheaper than all mixtures of the others.
func sags(left, middle, right api.BlendLot) bool {
	return (middle.Price-left.Price)*(right.Sharp-left.Sharp) < (right.Price-left.Price)*(middle.Sharp-left.Sharp)
}

// neighbours yields each corner, with the one before it; with the first one itself.
func (s shelf) neighbours(yield func(left, right int) bool) {
	left := s.corners[0]
	for _, right := range s.corners {
		if !yield(left, right) {
			return
		}
		left = right
	}
}

// greatest returns the greatest Sharp of all lots.
func (s shelf) greatest() int64 {
	return s.lots[s.corners[len(s.corners)-1]].Sharp
}

// tariff returns the cheapest prices: between two corners they are on the line through both.
func (s shelf) tariff() tariff {
	all := none()
	for left, right := range s.neighbours {
		price := through(s.lots[left], s.lots[right]).at
		for sharp := s.lots[left].Sharp; sharp <= s.lots[right].Sharp; sharp++ {
			all[sharp] = price(sharp)
		}
	}
	return all
}

// parts returns the cheapest blend that is just so sharp, if it can be had, of the corners on both sides of it.
func (s shelf) parts(sharp int64) []int64 {
	parts := make([]int64, len(s.lots))
	for left, right := range s.neighbours {
		low, high := s.lots[left].Sharp, s.lots[right].Sharp
		if high <= sharp {
			clear(parts)
			parts[right] = 1
		} else if low <= sharp {
			parts[left], parts[right] = high-sharp, sharp-low
		}
	}
	return parts
}

// useful returns the prices of the lots that are not idle.
func (s shelf) useful() map[api.BlendLot]api.Ratio {
	all := map[api.BlendLot]api.Ratio{}
	for _, lot := range s.lots {
		all[lot] = ratio(lot.Price, 1)
	}
	cheapest := s.tariff()
	for lot, price := range all {
		if cheaper(cheapest[lot.Sharp], price) {
			delete(all, lot)
		}
	}
	return all
}

// taken returns a copy of a list.
func taken(list []int) []int {
	out := make([]int, len(list))
	copy(out, list)
	return out
}
