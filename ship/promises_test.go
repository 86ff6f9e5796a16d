package ship_test

import (
	"fmt"
	"math"
	"reflect"
	"slices"
	"sync"
	"testing"

	"senvy/api"
	"senvy/dice"
	"senvy/ship"
)

// arguments is what all functions of the package take together.
type arguments struct {
	load                api.ShipLoad
	stow, begun, rising []int
}

// tellers returns the functions that take a load alone and tell a list.
func tellers() []func(api.ShipLoad) ([]int, api.Errno) {
	return []func(api.ShipLoad) ([]int, api.Errno){ship.Smooth, ship.Rising, ship.Stow, ship.Left}
}

// tell returns all that the package tells, by all its functions.
func tell(a arguments) string {
	var out []any
	add := func(results ...any) { out = append(out, results...) }
	add(ship.CheckLoad(a.load))
	n, most, err := ship.CheckStow(a.load, a.stow)
	add(n, most, err)
	n, err = ship.Fewest(a.load)
	add(n, err)
	n, err = ship.CheckRising(a.load, a.rising)
	add(n, err)
	for _, of := range tellers() {
		l, err := of(a.load)
		add(l, err)
	}
	l, err := ship.Choices(a.load, a.begun)
	add(l, err)
	l, err = ship.Out(a.load, a.stow)
	add(l, err)
	return fmt.Sprint(out...)
}

// copied returns arguments that share no memory with others.
func (a arguments) copied() arguments {
	a.load = clone(a.load)
	a.stow, a.begun, a.rising = slices.Clone(a.stow), slices.Clone(a.begun), slices.Clone(a.rising)
	return a
}

// samples returns arguments with loads of all sorts; all loads are valid.
func samples(t *testing.T, seed dice.Dice, n int) []arguments {
	t.Helper()
	var out []arguments
	for _, l := range append(loads(t, seed, n, api.MaxShipBoxes), loadA(), loadB(), loadC(), largest()) {
		a := arguments{load: l, stow: list(t, ship.Smooth, l), rising: risingTried(l)}
		if stow, ok := firstTried(l); ok {
			a.stow = stow
		}
		for i := range a.stow {
			a.stow[i] %= l.Stacks
		}
		a.begun = a.stow[:len(a.stow)/2]
		out = append(out, a)
	}
	return out
}

// TestAnyArguments is P1: no arguments make a function panic or run without end.
func TestAnyArguments(t *testing.T) {
	d := dice.Dice(20)
	far := indices(math.MinInt, math.MinInt+1, -1, 0, 1, 5, 6, 8, 9, 10, 20, 21, 100, 101, 1000, 1001, math.MaxInt-1, math.MaxInt)
	mild := func(n int) int {
		if d.Below(40) > 0 {
			return d.Below(n)
		}
		return far[d.Below(len(far))]
	}
	numbers := func(n int) []int {
		var out []int
		for range n {
			out = append(out, mild(4))
		}
		return out
	}
	valid := 0
	for range 6000 {
		a := arguments{load: api.ShipLoad{Stacks: 1 + mild(5), Floor: int64(1 + mild(30))}, rising: numbers(d.Below(4)), begun: numbers(d.Below(5))}
		for range d.Below(8) {
			a.load.Boxes = append(a.load.Boxes, api.ShipBox{Port: 1 + mild(6), Weight: int64(1 + mild(9))})
		}
		a.stow = numbers(len(a.load.Boxes))
		if ship.CheckLoad(a.load) == api.OK {
			valid++
		}
		if first, again := tell(a), tell(a.copied()); first != again {
			t.Fatal(a, first, again)
		}
	}
	if valid < 600 || valid > 5400 {
		t.Error(valid)
	}
}

// TestSameResults is P2: equal arguments give equal results, each time and side by side.
func TestSameResults(t *testing.T) {
	for _, a := range samples(t, 21, 100) {
		first := tell(a)
		results := make([]string, 8)
		var group sync.WaitGroup
		for i := range results {
			group.Go(func() { results[i] = tell(a) })
		}
		group.Wait()
		for _, again := range results {
			if again != first {
				t.Fatal(a, first, again)
			}
		}
	}
}

// roomy returns a list that has room behind its end.
func roomy[T any](list []T, mark T) []T {
	return append(slices.Clone(list), mark, mark)[:len(list)]
}

// TestArgumentsStay is R4: no argument is changed, nor the memory behind the end of one.
func TestArgumentsStay(t *testing.T) {
	for _, a := range samples(t, 22, 200) {
		a.load.Boxes = roomy(a.load.Boxes, api.ShipBox{Port: -7, Weight: -7})
		a.stow, a.begun, a.rising = roomy(a.stow, -7), roomy(a.begun, -7), roomy(a.rising, -7)
		look := func() []any {
			out := []any{slices.Clone(a.load.Boxes[:cap(a.load.Boxes)])}
			for _, list := range [][]int{a.stow, a.begun, a.rising} {
				out = append(out, slices.Clone(list[:cap(list)]))
			}
			return out
		}
		before := look()
		tell(a)
		if !reflect.DeepEqual(before, look()) {
			t.Fatal(a)
		}
	}
}

// TestResultsAreNew is R4: what is done to a result changes neither an argument nor another result.
func TestResultsAreNew(t *testing.T) {
	for _, a := range samples(t, 23, 200) {
		given, first := a.copied(), tell(a)
		for range 2 {
			for _, of := range tellers() {
				out, _ := of(given.load)
				spoil(out)
			}
			if len(given.begun) < len(given.load.Boxes) {
				spoil(choices(t, given.load, given.begun))
			}
			out, _ := ship.Out(given.load, given.stow)
			spoil(out)
		}
		if again := tell(given); again != first || !reflect.DeepEqual(given, a.copied()) {
			t.Fatal(a, first, again)
		}
	}
}

// spoil overwrites all memory of a list.
func spoil(list []int) {
	for i := range list[:cap(list)] {
		list[:cap(list)][i] = -99
	}
}

// TestNilAndEmpty is R3: a nil list and an empty one are the same.
func TestNilAndEmpty(t *testing.T) {
	full := func(stacks int) arguments {
		return arguments{load: api.ShipLoad{Boxes: []api.ShipBox{}, Stacks: stacks, Floor: 1}, stow: []int{}, begun: []int{}, rising: []int{}}
	}
	for _, stacks := range indices(0, 1, 5) {
		if one, two := tell(arguments{load: api.ShipLoad{Stacks: stacks, Floor: 1}}), tell(full(stacks)); one != two {
			t.Error(stacks, one, two)
		}
	}
	a := full(0)
	a.load = loadA()
	if one, two := tell(arguments{load: loadA()}), tell(a); one != two {
		t.Error(one, two)
	}
}
