package blend_test

import (
	"fmt"
	"math"
	"reflect"
	"slices"
	"sync"
	"testing"

	"senvy/api"
	"senvy/blend"
	"senvy/dice"
)

// tell returns all that the package tells of lots, by all its functions.
func tell(l []api.BlendLot, parts []int64, b api.BlendLine, sharp, loss int64) string {
	var out []any
	add := func(results ...any) { out = append(out, results...) }
	add(blend.CheckLots(l))
	one, two, err := blend.CheckBlend(l, parts)
	add(one, two, err)
	one, err = blend.Cheapest(l, sharp)
	add(one, err)
	mixed, err := blend.Parts(l, sharp)
	add(mixed, err)
	one, err = blend.AtLeast(l, sharp)
	add(one, err)
	one, err = blend.CheckLine(l, b, sharp)
	add(one, err)
	proof, err := blend.Line(l, sharp)
	add(proof, err)
	proof, err = blend.Floor(l, sharp)
	add(proof, err)
	list, err := blend.Corners(l)
	add(list, err)
	list, err = blend.Idle(l)
	add(list, err)
	days, err := blend.Last(l, sharp, loss)
	add(days, err)
	return fmt.Sprint(out...)
}

// TestAnyArguments is P1: no arguments make a function panic or run without end.
func TestAnyArguments(t *testing.T) {
	d := dice.Dice(21)
	far := numbers(math.MinInt64, math.MinInt64+1, -1<<20-1, -1<<20, -1, 0, 1, 2, 8, 9, 99, 100, 101, 1000, 1001, 1<<20, 1<<20+1, math.MaxInt64-1, math.MaxInt64)
	wild := func() int64 { return far[d.Below(len(far))] }
	mild := func() int64 {
		if d.Below(20) > 0 {
			return d.From(0, 3)
		}
		return wild()
	}
	valid := 0
	for range 5000 {
		var l []api.BlendLot
		for range d.Below(10) {
			l = append(l, api.BlendLot{Sharp: mild(), Price: mild()})
		}
		var parts []int64
		for range len(l) + max(0, d.Below(5)-3) {
			parts = append(parts, mild())
		}
		b := line(mild(), mild(), mild())
		sharp, loss := mild(), mild()
		if blend.CheckLots(l) == api.OK {
			valid++
		}
		if first, again := tell(l, parts, b, sharp, loss), tell(slices.Clone(l), slices.Clone(parts), b, sharp, loss); first != again {
			t.Fatal(l, parts, b, sharp, loss, first, again)
		}
	}
	if valid < 500 || valid > 4500 {
		t.Error(valid)
	}
}

// TestSameResults is P2: equal arguments give equal results, each time and side by side.
func TestSameResults(t *testing.T) {
	d := dice.Dice(22)
	for _, l := range append(shelves(t, 23, 100), lotsA(), lotsB()) {
		parts, b, sharp := blendThrown(&d, l), lineThrown(&d, l), d.From(0, api.MaxBlendSharp)
		first := tell(l, parts, b, sharp, 1)
		results := make([]string, 8)
		var group sync.WaitGroup
		for i := range results {
			group.Go(func() { results[i] = tell(l, parts, b, sharp, 1) })
		}
		group.Wait()
		for _, again := range results {
			if again != first {
				t.Fatal(l, first, again)
			}
		}
	}
}

// roomy returns a list that has room behind its end.
func roomy[T any](list []T, mark T) []T {
	return append(slices.Clone(list), mark, mark)[:len(list)]
}

// TestArgumentsStay is R4: no argument is changed, nor the memory behind the end of one.
func TestArgumentsStay(t *testing.T) {
	d := dice.Dice(24)
	for _, l := range append(shelves(t, 25, 100), lotsA(), lotsB()) {
		given := roomy(l, api.BlendLot{Sharp: -7, Price: -7})
		parts := roomy(blendThrown(&d, l), -7)
		look := func() []any {
			return []any{slices.Clone(given[:cap(given)]), slices.Clone(parts[:cap(parts)])}
		}
		before := look()
		for sharp := range int64(api.MaxBlendSharp + 1) {
			tell(given, parts, lineThrown(&d, l), sharp, 1)
		}
		if !reflect.DeepEqual(before, look()) {
			t.Fatal(l, parts)
		}
	}
}

// spoil overwrites all memory of a list.
func spoil[T any](list []T, mark T) {
	for i := range list[:cap(list)] {
		list[:cap(list)][i] = mark
	}
}

// TestResultsAreNew is R4: what is done to a result changes neither an argument nor another result.
func TestResultsAreNew(t *testing.T) {
	for _, l := range append(shelves(t, 26, 100), lotsA(), lotsB()) {
		sharp, _ := ends(l)
		given, parts := slices.Clone(l), slices.Repeat(numbers(1), len(l))
		first := tell(l, parts, line(1, 0, 0), sharp, 1)
		for range 2 {
			mixed, err := blend.Parts(given, sharp)
			corners, bad := blend.Corners(given)
			idle, worse := blend.Idle(given)
			if err != api.OK || bad != api.OK || worse != api.OK {
				t.Fatal(l, err, bad, worse)
			}
			spoil(mixed, -99)
			spoil(corners, -99)
			spoil(idle, -99)
		}
		if again := tell(given, parts, line(1, 0, 0), sharp, 1); again != first || !slices.Equal(given, l) {
			t.Fatal(l, first, again)
		}
	}
}

// TestNilAndEmpty is R3: a nil list and an empty one are the same.
func TestNilAndEmpty(t *testing.T) {
	if one, two := tell(nil, nil, line(1, 0, 0), 0, 1), tell([]api.BlendLot{}, []int64{}, line(1, 0, 0), 0, 1); one != two {
		t.Error(one, two)
	}
	if one, two := tell(lotsA(), nil, line(1, 0, 0), 0, 1), tell(lotsA(), []int64{}, line(1, 0, 0), 0, 1); one != two {
		t.Error(one, two)
	}
}
