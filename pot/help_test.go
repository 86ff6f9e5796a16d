package pot_test

import (
	"slices"
	"testing"

	"senvy/api"
	"senvy/dice"
	"senvy/pot"
)

// indices returns a list of numbers: of lots, of pots, or of prices.
func indices(n ...int) []int { return n }

// row takes both ends of each lot.
func row(pots int, weak []int, lots ...int64) api.PotRow {
	r := api.PotRow{Pots: pots, Weak: weak}
	for i := 0; i < len(lots); i += 2 {
		r.Lots = append(r.Lots, api.Range{Lo: lots[i], Hi: lots[i+1]})
	}
	return r
}

// rowR and rowS are the rows R and S of the chapter.
func rowR() api.PotRow {
	return row(20, indices(3, 6, 9, 15), 0, 7, 5, 9, 8, 15, 14, 19, 10, 11)
}

func rowS() api.PotRow { return row(20, indices(3, 6, 9, 15), 0, 7, 8, 12) }

// largest returns a row with as many pots, lots and weak pots as there can be.
func largest() api.PotRow {
	return row(40, indices(0, 1, 2, 3, 4, 5, 20, 35, 36, 37, 38, 39), 0, 39, 0, 0, 39, 39, 0, 39, 1, 5, 20, 20, 19, 21, 35, 38, 36, 39, 0, 3)
}

// clone returns a row that shares no memory with another one.
func clone(r api.PotRow) api.PotRow {
	r.Lots, r.Weak = slices.Clone(r.Lots), slices.Clone(r.Weak)
	return r
}

// lotsThrown throws some lots: short and long ones, and some that are the same, or nearly the same, as one before.
func lotsThrown(d *dice.Dice, pots, most int) []api.Range {
	var lots []api.Range
	long := []int{2, 4, 10, 40}[d.Below(4)]
	for range d.Below(most + 1) {
		lo := d.Below(pots)
		lot := api.Range{Lo: int64(lo), Hi: int64(min(lo+d.Below(long), pots-1))}
		if len(lots) > 0 && d.Below(4) == 0 {
			lot = lots[d.Below(len(lots))]
			lot.Hi = d.From(lot.Lo, lot.Hi)
		}
		lots = append(lots, lot)
	}
	return lots
}

// thrown throws a row with at most so many pots, lots and weak pots.
func thrown(d *dice.Dice, pots, lots, weak int) api.PotRow {
	r := api.PotRow{Pots: 1 + d.Below(pots)}
	r.Lots = lotsThrown(d, r.Pots, lots)
	few, any := 1+d.Below(3), d.Below(3) == 0
	for p := range r.Pots {
		if d.Below(few) == 0 && len(r.Weak) < weak && (any || len(having(r, p)) > 0) {
			r.Weak = append(r.Weak, p)
		}
	}
	return r
}

// rows throws so many valid rows, of which some can be explained, and some cannot.
func rows(t *testing.T, seed dice.Dice, n int) []api.PotRow {
	t.Helper()
	var all []api.PotRow
	good, weak := 0, 0
	for range n {
		r := thrown(&seed, []int{6, 15, api.MaxPots}[seed.Below(3)], api.MaxPotLots, api.MaxPotWeak)
		if err := pot.CheckRow(r); err != api.OK {
			t.Fatal(r, err)
		}
		if len(missed(r)) == 0 {
			good++
			weak += len(r.Weak)
		}
		all = append(all, r)
	}
	if good < n/2 || good > n*19/20 || weak < good*2 {
		t.Fatalf("of %d rows %d can be explained, with %d weak pots", n, good, weak)
	}
	return all
}

// explainable returns those rows that can be explained.
func explainable(all []api.PotRow) []api.PotRow {
	return slices.DeleteFunc(all, func(r api.PotRow) bool { return len(missed(r)) > 0 })
}

// turned returns a row turned round, pot by pot.
func turned(r api.PotRow) api.PotRow {
	out := api.PotRow{Pots: r.Pots}
	last := int64(r.Pots - 1)
	for _, lot := range r.Lots {
		out.Lots = append(out.Lots, api.Range{Lo: last - lot.Hi, Hi: last - lot.Lo})
	}
	for _, p := range r.Weak {
		out.Weak = append(out.Weak, r.Pots-1-p)
	}
	slices.Reverse(out.Weak)
	return out
}

// withWeak returns a row with one more weak pot; false if it is weak already, or too many are.
func withWeak(r api.PotRow, p int) (api.PotRow, bool) {
	at, weak := slices.BinarySearch(r.Weak, p)
	if weak || len(r.Weak) == api.MaxPotWeak {
		return r, false
	}
	r = clone(r)
	r.Weak = slices.Insert(r.Weak, at, p)
	return r, true
}

// withLot returns a row with one more lot, as its last one; false if there are too many.
func withLot(r api.PotRow, lot api.Range) (api.PotRow, bool) {
	if len(r.Lots) == api.MaxPotLots {
		return r, false
	}
	r = clone(r)
	r.Lots = append(r.Lots, lot)
	return r, true
}

// without returns a row without a lot.
func without(r api.PotRow, lot int) api.PotRow {
	r = clone(r)
	r.Lots = slices.Delete(r.Lots, lot, lot+1)
	return r
}

// joined returns two rows as the parts of one; false if there is too much in it.
func joined(left, right api.PotRow) (api.PotRow, bool) {
	r := clone(left)
	r.Pots += right.Pots
	for _, lot := range right.Lots {
		r.Lots = append(r.Lots, api.Range{Lo: lot.Lo + int64(left.Pots), Hi: lot.Hi + int64(left.Pots)})
	}
	for _, p := range right.Weak {
		r.Weak = append(r.Weak, p+left.Pots)
	}
	return r, pot.CheckRow(r) == api.OK
}

// least returns what Least tells, and whether the row can be explained.
func least(t *testing.T, r api.PotRow) (int, bool) {
	t.Helper()
	n, err := pot.Least(r)
	if err != api.OK && err != api.ErrPot {
		t.Fatal(r, n, err)
	}
	return n, err == api.OK
}

// lists returns what Lots, Fewest, Apart and Blame tell without an error.
func lists(t *testing.T, r api.PotRow) (lots, fewest, apart, blame []int) {
	t.Helper()
	lots, one := pot.Lots(r)
	fewest, two := pot.Fewest(r)
	apart, three := pot.Apart(r)
	blame, four := pot.Blame(r)
	if one != api.OK || two != api.OK || three != api.OK || four != api.OK {
		t.Fatal(r, one, two, three, four)
	}
	return lots, fewest, apart, blame
}

// fellows returns what Fellows tells without an error.
func fellows(t *testing.T, r api.PotRow, p int) []int {
	t.Helper()
	list, err := pot.Fellows(r, p)
	if err != api.OK {
		t.Fatal(r, p, list, err)
	}
	return list
}

// pricesThrown throws right prices: the weak pots, in any order, cost as much as they can, or less.
func pricesThrown(d *dice.Dice, r api.PotRow) []int {
	prices := make([]int, len(r.Weak))
	for range 2 * len(r.Weak) {
		at := d.Below(len(r.Weak))
		for range d.Below(12) {
			prices[at]++
			if prices[at] > api.MaxPots || !areRight(r, prices) {
				prices[at]--
			}
		}
	}
	return prices
}
