package bite_test

import (
	"fmt"
	"math"
	"reflect"
	"slices"
	"sync"
	"testing"

	"senvy/api"
	"senvy/bite"
	"senvy/dice"
)

// arguments is what all functions of the package take together.
type arguments struct {
	row, curve          []int64
	one, two, three     int
	most                int64
	left, right, places int
}

// tell returns all that the package tells, by all its functions.
func tell(a arguments) string {
	var out []any
	add := func(results ...any) { out = append(out, results...) }
	add(bite.CheckRow(a.row))
	n, sum, err := bite.CheckCurve(a.row, a.curve)
	add(n, sum, err)
	n, err = bite.CheckValley(a.row, a.one, a.two, a.three)
	add(n, err)
	one, two, three, err := bite.Valley(a.row)
	add(one, two, three, err)
	n, curve, err := bite.Even(a.row)
	add(n, curve, err)
	n, curve, err = bite.Near(a.row)
	add(n, curve, err)
	places, err := bite.Peaks(a.row, a.most)
	add(places, err)
	tastes, err := bite.Need(a.left, a.right)
	add(tastes, err)
	far, err := bite.Next(a.left, a.right)
	add(far, err)
	tastes, err = bite.Tastes(a.places)
	add(tastes, err)
	return fmt.Sprint(out...)
}

// copied returns arguments that share no memory with others.
func (a arguments) copied() arguments {
	a.row, a.curve = slices.Clone(a.row), slices.Clone(a.curve)
	return a
}

// samples returns arguments with rows of all sorts; nearly all of them are valid.
func samples(t *testing.T, seed dice.Dice, n int) []arguments {
	t.Helper()
	var out []arguments
	for _, row := range append(rows(t, seed, n), rowA(), rowB(), zigzag()) {
		a := arguments{row: row, curve: curveThrown(&seed, row), most: seed.From(0, api.MaxBiteValue)}
		a.one, a.two, a.three = seed.Below(4), 4+seed.Below(4), 8+seed.Below(4)
		a.left, a.right = seed.Below(api.MaxBiteSide+1), seed.Below(api.MaxBiteSide+1)
		a.places = 1 + seed.Below(api.MaxBiteWhole)
		out = append(out, a)
	}
	return out
}

// TestAnyArguments is P1: no arguments make a function panic or run without end.
func TestAnyArguments(t *testing.T) {
	d := dice.Dice(20)
	far := numbers(math.MinInt64, math.MinInt64+1, -1000, -1, 0, 1, 2, 11, 12, 13, 30, 31, 61, 62, 999, 1000, 1001, math.MaxInt64-1, math.MaxInt64)
	mild := func() int64 {
		if d.Below(20) > 0 {
			return d.From(0, 12)
		}
		return far[d.Below(len(far))]
	}
	list := func(n int) []int64 {
		var out []int64
		for range n {
			out = append(out, mild())
		}
		return out
	}
	valid := 0
	for range 6000 {
		n := d.Below(15)
		a := arguments{row: list(n), curve: list(max(0, n+max(d.Below(9)-7, 0))), most: mild()}
		a.one, a.two, a.three = int(mild()), int(mild()), int(mild())
		a.left, a.right, a.places = int(mild()), int(mild()), int(mild())
		if bite.CheckRow(a.row) == api.OK {
			valid++
		}
		if first, again := tell(a), tell(a.copied()); first != again {
			t.Fatal(a, first, again)
		}
	}
	if valid < 600 || valid > 5400 {
		t.Error(valid)
	}
}

// TestSameResults is P2: equal arguments give equal results, each time and side by side.
func TestSameResults(t *testing.T) {
	for _, a := range samples(t, 21, 100) {
		first := tell(a)
		results := make([]string, 8)
		var group sync.WaitGroup
		for i := range results {
			group.Go(func() { results[i] = tell(a) })
		}
		group.Wait()
		for _, again := range results {
			if again != first {
				t.Fatal(a, first, again)
			}
		}
	}
}

// roomy returns a list that has room behind its end.
func roomy(list []int64) []int64 {
	return append(slices.Clone(list), -7, -7)[:len(list)]
}

// TestArgumentsStay is R4: no argument is changed, nor the memory behind the end of one.
func TestArgumentsStay(t *testing.T) {
	for _, a := range samples(t, 22, 300) {
		a.row, a.curve = roomy(a.row), roomy(a.curve)
		look := func() [][]int64 {
			return [][]int64{slices.Clone(a.row[:cap(a.row)]), slices.Clone(a.curve[:cap(a.curve)])}
		}
		before := look()
		tell(a)
		if !reflect.DeepEqual(before, look()) {
			t.Fatal(a)
		}
	}
}

// spoil overwrites all memory of a list.
func spoil[T any](list []T, mark T) {
	for i := range list[:cap(list)] {
		list[:cap(list)][i] = mark
	}
}

// TestResultsAreNew is R4: what is done to a result changes neither an argument nor another result.
func TestResultsAreNew(t *testing.T) {
	for _, a := range samples(t, 23, 300) {
		given, first := a.copied(), tell(a)
		for range 2 {
			_, even, err := bite.Even(given.row)
			_, near, bad := bite.Near(given.row)
			places, worse := bite.Peaks(given.row, given.most)
			if err != api.OK || bad != api.OK || worse != api.OK {
				t.Fatal(a, err, bad, worse)
			}
			spoil(even, -99)
			spoil(near, -99)
			spoil(places, -99)
		}
		if again := tell(given); again != first || !slices.Equal(given.row, a.row) {
			t.Fatal(a, first, again)
		}
	}
}

// TestNilAndEmpty is R3: a nil list and an empty one are the same.
func TestNilAndEmpty(t *testing.T) {
	if one, two := tell(arguments{}), tell(arguments{row: numbers(), curve: []int64{}}); one != two {
		t.Error(one, two)
	}
	if one, two := tell(arguments{row: rowA()}), tell(arguments{row: rowA(), curve: []int64{}}); one != two {
		t.Error(one, two)
	}
}
