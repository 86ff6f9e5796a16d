package pot_test

import (
	"fmt"
	"math"
	"reflect"
	"slices"
	"sync"
	"testing"

	"senvy/api"
	"senvy/dice"
	"senvy/pot"
)

// arguments is what all functions of the package take together.
type arguments struct {
	row                 api.PotRow
	lots, prices, apart []int
	pot                 int
}

// tell returns all that the package tells, by all its functions.
func tell(a arguments) string {
	var out []any
	add := func(results ...any) { out = append(out, results...) }
	list := func(of func(api.PotRow) ([]int, api.Errno)) {
		l, err := of(a.row)
		add(l, err)
	}
	add(pot.CheckRow(a.row), pot.CheckApart(a.row, a.apart))
	n, err := pot.CheckLots(a.row, a.lots)
	add(n, err)
	n, err = pot.CheckPrices(a.row, a.prices)
	add(n, err)
	n, err = pot.Least(a.row)
	add(n, err)
	list(pot.Lots)
	list(pot.Prices)
	list(pot.Unknown)
	list(pot.Fewest)
	list(pot.Apart)
	list(pot.Blame)
	l, err := pot.Fellows(a.row, a.pot)
	add(l, err)
	return fmt.Sprint(out...)
}

// copied returns arguments that share no memory with others.
func (a arguments) copied() arguments {
	a.row = clone(a.row)
	a.lots, a.prices, a.apart = slices.Clone(a.lots), slices.Clone(a.prices), slices.Clone(a.apart)
	return a
}

// samples returns arguments with rows of all sorts; all rows are valid.
func samples(t *testing.T, seed dice.Dice, n int) []arguments {
	t.Helper()
	var out []arguments
	for _, r := range append(rows(t, seed, n), rowR(), rowS(), largest()) {
		a := arguments{row: r, lots: upTo(len(r.Lots)), apart: tryApart(r), pot: seed.Below(r.Pots)}
		if len(r.Weak) > 0 {
			a.prices = pricesThrown(&seed, r)
		}
		out = append(out, a)
	}
	return out
}

// TestAnyArguments is P1: no arguments make a function panic or run without end.
func TestAnyArguments(t *testing.T) {
	d := dice.Dice(20)
	far := indices(math.MinInt, math.MinInt+1, -40, -1, 0, 1, 2, 9, 10, 11, 12, 13, 38, 39, 40, 41, math.MaxInt-1, math.MaxInt)
	mild := func() int {
		if d.Below(40) > 0 {
			return d.Below(13)
		}
		return far[d.Below(len(far))]
	}
	list := func(n int) []int {
		var out []int
		for range n {
			out = append(out, mild())
		}
		if d.Below(8) > 0 {
			slices.Sort(out)
			out = slices.Compact(out)
		}
		return out
	}
	valid := 0
	for range 6000 {
		a := arguments{row: api.PotRow{Pots: 12 + mild(), Weak: list(d.Below(6))}, lots: list(d.Below(6)), apart: list(d.Below(3)), pot: mild()}
		for range d.Below(6) {
			lo := mild()
			a.row.Lots = append(a.row.Lots, api.Range{Lo: int64(lo), Hi: int64(max(lo, mild()))})
		}
		a.prices = list(len(a.row.Weak))
		if pot.CheckRow(a.row) == api.OK {
			valid++
		}
		if first, again := tell(a), tell(a.copied()); first != again {
			t.Fatal(a, first, again)
		}
	}
	if valid < 600 || valid > 5400 {
		t.Error(valid)
	}
}

// TestSameResults is P2: equal arguments give equal results, each time and side by side.
func TestSameResults(t *testing.T) {
	for _, a := range samples(t, 21, 100) {
		first := tell(a)
		results := make([]string, 8)
		var group sync.WaitGroup
		for i := range results {
			group.Go(func() { results[i] = tell(a) })
		}
		group.Wait()
		for _, again := range results {
			if again != first {
				t.Fatal(a, first, again)
			}
		}
	}
}

// roomy returns a list that has room behind its end.
func roomy[T any](list []T, mark T) []T {
	return append(slices.Clone(list), mark, mark)[:len(list)]
}

// TestArgumentsStay is R4: no argument is changed, nor the memory behind the end of one.
func TestArgumentsStay(t *testing.T) {
	for _, a := range samples(t, 22, 300) {
		a.row.Lots = roomy(a.row.Lots, api.Range{Lo: -7, Hi: -7})
		a.row.Weak, a.lots, a.prices, a.apart = roomy(a.row.Weak, -7), roomy(a.lots, -7), roomy(a.prices, -7), roomy(a.apart, -7)
		look := func() []any {
			out := []any{slices.Clone(a.row.Lots[:cap(a.row.Lots)])}
			for _, list := range [][]int{a.row.Weak, a.lots, a.prices, a.apart} {
				out = append(out, slices.Clone(list[:cap(list)]))
			}
			return out
		}
		before := look()
		tell(a)
		if !reflect.DeepEqual(before, look()) {
			t.Fatal(a)
		}
	}
}

// TestResultsAreNew is R4: what is done to a result changes neither an argument nor another result.
func TestResultsAreNew(t *testing.T) {
	for _, a := range samples(t, 23, 300) {
		given, first := a.copied(), tell(a)
		for range 2 {
			for _, of := range []func(api.PotRow) ([]int, api.Errno){pot.Lots, pot.Prices, pot.Unknown, pot.Fewest, pot.Apart, pot.Blame} {
				list, _ := of(given.row)
				spoil(list)
			}
			spoil(fellows(t, given.row, given.pot))
		}
		if again := tell(given); again != first || !reflect.DeepEqual(given, a.copied()) {
			t.Fatal(a, first, again)
		}
	}
}

// spoil overwrites all memory of a list.
func spoil(list []int) {
	for i := range list[:cap(list)] {
		list[:cap(list)][i] = -99
	}
}

// TestNilAndEmpty is R3: a nil list and an empty one are the same.
func TestNilAndEmpty(t *testing.T) {
	full := func(pots int) arguments {
		return arguments{row: api.PotRow{Pots: pots, Lots: []api.Range{}, Weak: indices()}, lots: []int{}, prices: []int{}, apart: []int{}}
	}
	for _, pots := range indices(0, 1, 7) {
		if one, two := tell(arguments{row: api.PotRow{Pots: pots}}), tell(full(pots)); one != two {
			t.Error(pots, one, two)
		}
	}
	a := full(0)
	a.row = rowR()
	if one, two := tell(arguments{row: rowR()}), tell(a); one != two {
		t.Error(one, two)
	}
}
