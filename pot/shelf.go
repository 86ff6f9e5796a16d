package pot

import (
	"iter"
	"slices"

	"senvy/api"
)

// shelf is a valid row.
type shelf struct {
	api.PotRow
}

// only returns the shelf with some of its lots alone.
func (s shelf) only(lots ...int) shelf {
	var some []api.Range
	for _, lot := range lots {
		some = append(some, s.Lots[lot])
	}
	s.Lots = some
	return s
}

// size returns how many pots a lot has.
func (s shelf) size(lot int) int { return int(s.Lots[lot].Hi - s.Lots[lot].Lo + 1) }

// has reports whether a lot has a pot.
func (s shelf) has(lot, pot int) bool {
	return within(s.Lots[lot].Lo, s.Lots[lot].Hi, int64(pot))
}

// having yields the lots that have a pot.
func (s shelf) having(pot int) iter.Seq[int] {
	return func(yield func(int) bool) {
		for lot := range s.Lots {
			if s.has(lot, pot) && !yield(lot) {
				return
			}
		}
	}
}

// before returns how many weak pots are before the first pot of a lot.
func (s shelf) before(lot int) int {
	n, _ := slices.BinarySearch(s.Weak, int(s.Lots[lot].Lo))
	return n
}

// lacking returns marks of the pots that no lot has.
func (s shelf) lacking() []bool {
	marks := make([]bool, s.Pots)
	for pot := range marks {
		marks[pot] = true
	}
	for _, lot := range s.Lots {
		clear(marks[lot.Lo : lot.Hi+1])
	}
	return marks
}

// unknown returns the weak pots that no lot has.
func (s shelf) unknown() []int {
	marks := s.lacking()
	var pots []int
	for _, pot := range s.Weak {
		if marks[pot] {
			pots = append(pots, pot)
		}
	}
	return pots
}

// fellows returns all pots that some lot has together with a pot, without the pot itself.
func (s shelf) fellows(pot int) []int {
	lots := slices.Collect(s.having(pot))
	var pots []int
	for other, marked := range s.only(lots...).lacking() {
		if !marked && other != pot {
			pots = append(pots, other)
		}
	}
	return pots
}

// areWeak reports whether all pots are weak.
func (s shelf) areWeak(pots []int) bool {
	for _, pot := range pots {
		if !slices.Contains(s.Weak, pot) {
			return false
		}
	}
	return true
}

// apart returns the first one of the longest lists of some increasing pots of which no lot has two.
//
// It takes each pot that no lot has together with the last one that was taken. A lot that has two pots has all between them too.
// So no lot has two of the list; and no other list that is apart has a lesser pot as its first one, as its second one, and so on.
func (s shelf) apart(pots []int) []int {
	var list []int
	last := -1 // no lot has this one
search:
	for _, pot := range pots {
		for lot := range s.having(pot) {
			if s.has(lot, last) {
				continue search
			}
		}
		list = append(list, pot)
		last = pot
	}
	return list
}
