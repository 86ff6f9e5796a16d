package farm_test

import (
	"fmt"
	"math"
	"reflect"
	"slices"
	"sync"
	"testing"

	"senvy/api"
	"senvy/dice"
	"senvy/farm"
)

// arguments is what all functions of the package take together.
type arguments struct {
	year   api.FarmYear
	rough  api.FarmRough
	shares []int64
	farm   int
}

// tell returns all that the package tells, by all its functions.
func tell(a arguments) string {
	var out []any
	add := func(results ...any) { out = append(out, results...) }
	add(farm.CheckYear(a.year), farm.CheckFair(a.year, a.shares), farm.CheckRough(a.rough))
	quota, err := farm.Quota(a.year, a.farm)
	add(quota, err)
	list, err := farm.Fair(a.year)
	add(list, err)
	n, err := farm.Next(a.year)
	add(n, err)
	one, two, err := farm.Complaint(a.year, a.shares)
	add(one, two, err)
	lower, upper, err := farm.Divisors(a.year, a.shares)
	add(lower, upper, err)
	list, err = farm.Near(a.year)
	add(list, err)
	off, err := farm.CheckNear(a.year, a.shares)
	add(off, err)
	s, err := farm.Span(a.rough, a.farm)
	add(s, err)
	return fmt.Sprint(out...)
}

// copied returns arguments that share no memory with others.
func (a arguments) copied() arguments {
	a.year, a.rough, a.shares = cloneYear(a.year), cloneRough(a.rough), slices.Clone(a.shares)
	return a
}

// samples returns arguments with years of all sorts; all of them are valid.
func samples(t *testing.T, seed dice.Dice, n int) []arguments {
	t.Helper()
	var out []arguments
	for i, y := range mixed(t, seed, n) {
		a := arguments{year: y, rough: around(&seed, y, 10), shares: fairTried(y), farm: seed.Below(len(y.Clean))}
		if i%2 == 1 {
			a.shares = nearTried(y)
		}
		if i%3 == 0 {
			a.shares = moved(&seed, a.shares)
		}
		out = append(out, a)
	}
	return out
}

// wild throws numbers that are mostly small, and sometimes at or beyond the limits.
func wild(d *dice.Dice) int64 {
	far := numbers(math.MinInt64, math.MinInt64+1, -201, -101, -1, 0, 99, 100, 101, 199, 200, 201, math.MaxInt64-1, math.MaxInt64)
	if d.Below(30) > 0 {
		return d.From(0, 5)
	}
	return far[d.Below(len(far))]
}

// wildly throws arguments that can be anything.
func wildly(d *dice.Dice) arguments {
	a := arguments{year: year(wild(d)), rough: rough(wild(d)), farm: int(wild(d)) - d.Below(2)}
	for range d.Below(10) {
		low, high := wild(d), wild(d)
		if d.Below(20) > 0 {
			high = max(low, high)
		}
		a.year.Clean = append(a.year.Clean, low)
		a.rough.Clean = append(a.rough.Clean, to(low, high))
		a.shares = append(a.shares, wild(d)/3)
	}
	if len(a.shares) > 0 && d.Below(3) > 0 {
		a.shares[0] += a.year.Price - sumOf(a.shares)
	}
	return a
}

// TestAnyArguments is P1: no arguments make a function panic or run without end.
func TestAnyArguments(t *testing.T) {
	d := dice.Dice(30)
	valid, shared, known := 0, 0, 0
	for range 10000 {
		a := wildly(&d)
		if farm.CheckYear(a.year) == api.OK {
			valid++
		}
		if _, _, err := farm.Complaint(a.year, a.shares); err == api.OK || err == api.ErrNone {
			shared++
		}
		if _, err := farm.Span(a.rough, a.farm); err == api.OK {
			known++
		}
		if first, again := tell(a), tell(a.copied()); first != again {
			t.Fatal(a, first, again)
		}
	}
	if min(valid, shared, known) < 1000 || max(valid, shared, known) > 9500 {
		t.Error(valid, shared, known)
	}
}

// TestSameResults is P2: equal arguments give equal results, each time and side by side.
func TestSameResults(t *testing.T) {
	for _, a := range samples(t, 31, 150) {
		first := tell(a)
		results := make([]string, 8)
		var group sync.WaitGroup
		for i := range results {
			group.Go(func() { results[i] = tell(a) })
		}
		group.Wait()
		for _, again := range results {
			if again != first {
				t.Fatal(a, first, again)
			}
		}
	}
}

// roomy returns a list that has room behind its end.
func roomy[T any](list []T, mark T) []T {
	return append(slices.Clone(list), mark, mark)[:len(list)]
}

// TestArgumentsStay is R4: no argument is changed, nor the memory behind the end of one.
func TestArgumentsStay(t *testing.T) {
	for _, a := range samples(t, 32, 300) {
		a.year.Clean, a.shares = roomy(a.year.Clean, -7), roomy(a.shares, -7)
		a.rough.Clean = roomy(a.rough.Clean, to(-7, -7))
		look := func() []any {
			return []any{
				slices.Clone(a.year.Clean[:cap(a.year.Clean)]),
				slices.Clone(a.rough.Clean[:cap(a.rough.Clean)]),
				slices.Clone(a.shares[:cap(a.shares)]),
			}
		}
		before := look()
		tell(a)
		if !reflect.DeepEqual(before, look()) {
			t.Fatal(a)
		}
	}
}

// spoil overwrites all memory of a list.
func spoil(list []int64) {
	for i := range list[:cap(list)] {
		list[:cap(list)][i] = -99
	}
}

// TestResultsAreNew is R4: what is done to a result changes neither an argument nor another result.
func TestResultsAreNew(t *testing.T) {
	for _, a := range samples(t, 33, 300) {
		given, first := a.copied(), tell(a)
		for range 2 {
			kept := list(t, farm.Fair, given.year)
			spoil(list(t, farm.Fair, given.year))
			spoil(list(t, farm.Near, given.year))
			if !slices.Equal(kept, list(t, farm.Fair, given.year)) {
				t.Fatal(a, kept)
			}
		}
		if again := tell(given); again != first || !reflect.DeepEqual(given, a.copied()) {
			t.Fatal(a, first, again)
		}
	}
}

// TestNilAndEmpty is R3: a nil list and an empty one are the same.
func TestNilAndEmpty(t *testing.T) {
	for _, price := range numbers(-1, 0, 5, 201) {
		empty := arguments{shares: []int64{}}
		empty.year = api.FarmYear{Price: price, Clean: []int64{}}
		empty.rough = api.FarmRough{Price: price, Clean: []api.Range{}}
		if one, two := tell(arguments{year: year(price), rough: rough(price)}), tell(empty); one != two {
			t.Error(price, one, two)
		}
	}
	valid := arguments{year: yearY(), rough: roughR()}
	empty := valid
	empty.shares = []int64{}
	if one, two := tell(valid), tell(empty); one != two {
		t.Error(one, two)
	}
}
