package ship_test

import (
	"math"
	"slices"
	"testing"

	"senvy/api"
	"senvy/ship"
)

// loadCase is a load and what CheckLoad has to return.
type loadCase struct {
	name string
	load api.ShipLoad
	err  api.Errno
}

func loadCases() []loadCase {
	return append([]loadCase{
		{"A", loadA(), api.OK},
		{"B", loadB(), api.OK},
		{"C", loadC(), api.OK},
		{"no boxes", load(1, 1), api.OK},
		{"no boxes, and much room", load(5, 1000), api.OK},
		{"the largest one", largest(), api.OK},
		{"the smallest one", smallest(), api.OK},
		{"a box that is heavier than a stack can be", load(1, 1, 1, 100), api.OK},

		{"nothing at all", api.ShipLoad{}, api.ErrMany},
		{"a box too many", load(1, 1, slices.Repeat(indices(1, 1), 10)...), api.ErrMany},
		{"many boxes", load(1, 1, slices.Repeat(indices(1, 1), 1000)...), api.ErrMany},
		{"no stacks", load(0, 1), api.ErrMany},
		{"fewer than no stacks", load(-1, 1), api.ErrMany},
		{"a stack too many", load(6, 1), api.ErrMany},
		{"far too few stacks", load(math.MinInt, 1), api.ErrMany},
		{"far too many stacks", load(math.MaxInt, 1), api.ErrMany},
		{"a floor of nothing", load(1, 0), api.ErrRange},
		{"a floor below nothing", load(1, -1), api.ErrRange},
		{"a floor too great", load(1, 1001), api.ErrRange},
		{"a floor far too small", load(1, math.MinInt64), api.ErrRange},
		{"a floor far too great", load(1, math.MaxInt64), api.ErrRange},
	}, slices.Concat(badBoxes(), manyErrors())...)
}

// badBoxes returns loads of which one box is not as it can be.
func badBoxes() []loadCase {
	var cases []loadCase
	for _, bad := range []api.ShipBox{
		{Port: 0, Weight: 1}, {Port: -1, Weight: 1}, {Port: 21, Weight: 1}, {Port: math.MinInt, Weight: 1}, {Port: math.MaxInt, Weight: 1},
		{Port: 1, Weight: 0}, {Port: 1, Weight: -1}, {Port: 1, Weight: 101}, {Port: 1, Weight: math.MinInt64}, {Port: 1, Weight: math.MaxInt64},
		{}, {Port: 21, Weight: 101},
	} {
		for box := range loadA().Boxes {
			l := loadA()
			l.Boxes[box] = bad
			cases = append(cases, loadCase{"a bad box among good ones", l, api.ErrRange})
		}
	}
	return cases
}

// manyErrors returns loads with several errors.
func manyErrors() []loadCase {
	bad := slices.Repeat(indices(0, 0), 10)
	return []loadCase{
		{"too many boxes before bad ones", load(1, 1, bad...), api.ErrMany},
		{"too many boxes before a bad floor", load(1, 0, bad...), api.ErrMany},
		{"too few stacks before a bad floor", load(0, 0), api.ErrMany},
		{"too many stacks before a bad floor", load(6, 1001), api.ErrMany},
		{"too few stacks before a bad box", load(0, 1, 0, 0), api.ErrMany},
		{"too many stacks before a bad box", load(6, 1, 1, 0), api.ErrMany},
		{"a bad floor and a bad box", load(1, 0, 0, 0), api.ErrRange},
	}
}

// TestCheckLoad is P7.1.
func TestCheckLoad(t *testing.T) {
	for _, c := range loadCases() {
		if err := ship.CheckLoad(c.load); err != c.err {
			t.Errorf("%s: %v: %v, not %v", c.name, c.load, err, c.err)
		}
	}
}

// call is what a function returned: whether it told something, and its error.
type call struct {
	name string
	some bool
	err  api.Errno
}

// calls calls all functions with a load but CheckLoad.
func calls(l api.ShipLoad, numbers []int) []call {
	n, most, err := ship.CheckStow(l, numbers)
	out := []call{{"CheckStow", n != 0 || most != 0, err}}
	n, err = ship.Fewest(l)
	out = append(out, call{"Fewest", n != 0, err})
	n, err = ship.CheckRising(l, numbers)
	out = append(out, call{"CheckRising", n != 0, err})
	add := func(name string, list []int, err api.Errno) { out = append(out, call{name, len(list) > 0, err}) }
	list, err := ship.Smooth(l)
	add("Smooth", list, err)
	list, err = ship.Rising(l)
	add("Rising", list, err)
	list, err = ship.Stow(l)
	add("Stow", list, err)
	list, err = ship.Choices(l, numbers)
	add("Choices", list, err)
	list, err = ship.Left(l)
	add("Left", list, err)
	list, err = ship.Out(l, numbers)
	add("Out", list, err)
	return out
}

// TestLoadFirst checks that the error of the load comes before all others, and that nothing is told with it.
func TestLoadFirst(t *testing.T) {
	for _, c := range loadCases() {
		if c.err == api.OK {
			continue
		}
		for _, numbers := range [][]int{nil, indices(0), indices(0, 1), indices(-1), indices(1, 0), indices(99), make([]int, 50), make([]int, len(c.load.Boxes))} {
			for _, got := range calls(c.load, numbers) {
				if got.some || got.err != c.err {
					t.Errorf("%s: %s: %v, not %v, or a result beside it", c.name, got.name, got.err, c.err)
				}
			}
		}
	}
}

// TestCheckStowAndOut is P7.2 and P7.7.
func TestCheckStowAndOut(t *testing.T) {
	for i, c := range []struct {
		load api.ShipLoad
		stow []int
		n    int
		most int64
		err  api.Errno
		out  []int
	}{
		{loadA(), indices(0, 0, 1, 1, 2, 2), 3, 40, api.OK, indices(1, 5, 3, 2, 0, 4)},
		{loadA(), indices(2, 2, 1, 1, 0, 0), 3, 40, api.OK, indices(5, 1, 3, 2, 0, 4)},
		{loadA(), indices(0, 0, 1, 1, 2, 0), 3, 40, api.OK, indices(5, 1, 3, 2, 0, 4)},
		{loadC(), indices(0, 0, 1, 2, 3, 1), 4, 30, api.OK, indices(1, 5, 2, 3, 0, 4)},
		{loadC(), indices(3, 3, 2, 1, 0, 2), 4, 30, api.OK, indices(5, 1, 3, 2, 0, 4)},
		{load(2, 5), nil, 0, 0, api.OK, nil},
		{smallest(), indices(0), 1, 1, api.OK, indices(0)},
		{load(5, 7, 20, 7), indices(4), 1, 7, api.OK, indices(0)},
		{light(5, 7, 7, 7), indices(3, 3, 3), 1, 3, api.OK, indices(2, 1, 0)},
		{light(5, 7, 7, 7), indices(4, 2, 0), 3, 1, api.OK, indices(2, 1, 0)},
		{light(5, 7, 7, 7), indices(4, 2, 4), 2, 2, api.OK, indices(1, 2, 0)},
		{light(2, 4, 4, 4, 4), indices(1, 0, 0, 1), 2, 2, api.OK, indices(2, 1, 3, 0)},
		{light(2, 4, 1, 3, 2), indices(0, 0, 1, 1), 2, 2, api.OK, indices(1, 3, 2, 0)},
		{largest(), make([]int, 9), 1, 900, api.OK, indices(8, 7, 6, 5, 4, 3, 2, 1, 0)},

		// Too heavy, but smooth: they can go out.
		{loadA(), indices(0, 1, 0, 0, 2, 1), 0, 0, api.ErrOver, indices(5, 1, 3, 2, 0, 4)},
		{loadC(), indices(0, 0, 1, 1, 2, 2), 0, 0, api.ErrOver, indices(1, 5, 3, 2, 0, 4)},
		{load(3, 9, 2, 10), indices(2), 0, 0, api.ErrOver, indices(0)},
		{load(3, 9, 2, 1, 2, 5, 2, 5), indices(0, 2, 2), 0, 0, api.ErrOver, indices(0, 2, 1)},

		{loadA(), indices(0, 0, 0, 1, 2, 2), 0, 0, api.ErrShip, nil},
		{loadA(), indices(0, 1, 1, 2, 2, 1), 0, 0, api.ErrShip, nil},
		{loadA(), make([]int, 6), 0, 0, api.ErrShip, nil},
		{light(1, 1, 2), indices(0, 0), 0, 0, api.ErrShip, nil},
		// Not on the box below it, but on one under that.
		{light(2, 3, 2, 1, 3), indices(0, 0, 0, 0), 0, 0, api.ErrShip, nil},
		{light(1, 2, 3, 1), indices(0, 0, 0), 0, 0, api.ErrShip, nil},

		{loadA(), indices(0, 0, 1, 1, 2, 3), 0, 0, api.ErrArg, nil},
		{loadA(), indices(-1, 0, 1, 1, 2, 2), 0, 0, api.ErrArg, nil},
		{loadA(), indices(0, 0, math.MinInt, 1, 2, 2), 0, 0, api.ErrArg, nil},
		{loadA(), indices(0, 0, 1, 1, math.MaxInt, 2), 0, 0, api.ErrArg, nil},
		{smallest(), indices(1), 0, 0, api.ErrArg, nil},

		{loadA(), indices(0, 0, 1), 0, 0, api.ErrEqual, nil},
		{loadA(), indices(0, 0, 1, 1, 2, 2, 2), 0, 0, api.ErrEqual, nil},
		{loadA(), nil, 0, 0, api.ErrEqual, nil},
		{load(2, 5), indices(0), 0, 0, api.ErrEqual, nil},
		{smallest(), make([]int, 1000), 0, 0, api.ErrEqual, nil},

		// Several errors at once.
		{loadA(), indices(9), 0, 0, api.ErrEqual, nil},
		{loadA(), indices(0, 0, 0, 0, 0, 0, -1), 0, 0, api.ErrEqual, nil},
		{loadA(), indices(0, 0, 0, 0, 0, 3), 0, 0, api.ErrArg, nil},
		{load(1, 5, 2, 9), indices(1), 0, 0, api.ErrArg, nil},
		{load(1, 5, 2, 9, 3, 9), indices(0, 0), 0, 0, api.ErrShip, nil},
		{load(2, 5, 2, 9, 2, 1, 3, 1), indices(0, 1, 1), 0, 0, api.ErrShip, nil},
	} {
		if n, most, err := ship.CheckStow(c.load, c.stow); n != c.n || most != c.most || err != c.err {
			t.Error(i, c.load, c.stow, n, most, err)
		}
		want := c.err
		if want == api.ErrOver {
			want = api.OK
		}
		if out, err := ship.Out(c.load, c.stow); !slices.Equal(out, c.out) || err != want {
			t.Error(i, c.load, c.stow, out, err)
		}
	}
}

// TestCheckRising is P7.4 for CheckRising.
func TestCheckRising(t *testing.T) {
	for i, c := range []struct {
		load  api.ShipLoad
		boxes []int
		n     int
		err   api.Errno
	}{
		{loadA(), indices(1, 2, 4), 3, api.OK},
		{loadA(), indices(1, 3), 2, api.OK},
		{loadA(), indices(0, 4), 2, api.OK},
		{loadA(), indices(5), 1, api.OK},
		{loadA(), nil, 0, api.OK},
		{load(1, 1), nil, 0, api.OK},
		{light(1, 1, 2, 3, 4, 5, 6, 7, 8, 20), indices(0, 1, 2, 3, 4, 5, 6, 7, 8), 9, api.OK},

		{loadA(), indices(0, 2, 4), 0, api.ErrRule},
		{loadA(), indices(2, 3), 0, api.ErrRule},
		{loadA(), indices(2, 4, 5), 0, api.ErrRule},
		{loadA(), indices(1, 5), 0, api.ErrRule},
		{loadA(), indices(0, 1, 2, 3, 4, 5), 0, api.ErrRule},

		{loadA(), indices(2, 1), 0, api.ErrArg},
		{loadA(), indices(1, 1), 0, api.ErrArg},
		{loadA(), indices(1, 2, 2), 0, api.ErrArg},
		{loadA(), indices(1, 4, 2), 0, api.ErrArg},
		{loadA(), indices(1, 6), 0, api.ErrArg},
		{loadA(), indices(-1), 0, api.ErrArg},
		{loadA(), indices(6), 0, api.ErrArg},
		{loadA(), indices(math.MinInt, 1), 0, api.ErrArg},
		{loadA(), indices(1, math.MaxInt), 0, api.ErrArg},
		{loadA(), make([]int, 1000), 0, api.ErrArg},
		{load(1, 1), indices(0), 0, api.ErrArg},

		// Several errors at once: lists that are wrong, and do not rise.
		{loadA(), indices(0, 1, 1), 0, api.ErrArg},
		{loadA(), indices(0, 1, 6), 0, api.ErrArg},
		{loadA(), indices(-1, 0, 1), 0, api.ErrArg},
		{loadA(), indices(4, 3), 0, api.ErrArg},
	} {
		if n, err := ship.CheckRising(c.load, c.boxes); n != c.n || err != c.err {
			t.Error(i, c.load, c.boxes, n, err)
		}
	}
}

// TestKnownLoads is P7.3, P7.4, P7.5 and P7.6 for loads of which the answers are known.
func TestKnownLoads(t *testing.T) {
	for i, c := range []struct {
		load         api.ShipLoad
		fewest       int
		rising, left []int
		stow         []int
		err          api.Errno
	}{
		{loadA(), 3, indices(1, 2, 4), nil, indices(0, 0, 1, 1, 2, 0), api.OK},
		{loadB(), 3, indices(1, 2, 4), indices(1), nil, api.ErrShip},
		{loadC(), 3, indices(1, 2, 4), nil, indices(0, 0, 1, 2, 3, 1), api.OK},
		{load(1, 1), 0, nil, nil, nil, api.OK},
		{smallest(), 1, indices(0), nil, indices(0), api.OK},
		{largest(), 1, indices(0), nil, make([]int, 9), api.OK},
		{load(1, 40, 3, 10, 1, 20, 2, 10, 2, 30, 4, 5, 1, 10), 3, indices(1, 2, 4), indices(1, 4), nil, api.ErrShip},
		// Smooth as it is, but too heavy: nothing is left.
		{load(1, 29, 5, 10, 5, 10, 4, 10), 1, indices(0), nil, nil, api.ErrShip},
		{load(1, 30, 5, 10, 5, 10, 4, 10), 1, indices(0), nil, indices(0, 0, 0), api.OK},
		{load(2, 29, 5, 10, 5, 10, 4, 10), 1, indices(0), nil, indices(0, 0, 1), api.OK},
		{load(3, 19, 5, 10, 5, 10, 4, 10), 1, indices(0), nil, indices(0, 1, 2), api.OK},
		{load(5, 9, 5, 10), 1, indices(0), nil, nil, api.ErrShip},
		{load(5, 100, slices.Repeat(indices(1, 51), 6)...), 1, indices(0), nil, nil, api.ErrShip},
		{load(5, 100, slices.Repeat(indices(1, 51), 5)...), 1, indices(0), nil, indices(0, 1, 2, 3, 4), api.OK},
		// The first box cannot be where the second one has to be.
		{load(2, 15, 5, 5, 5, 10, 4, 5, 4, 10), 1, indices(0), nil, indices(0, 0, 1, 1), api.OK},
		{load(2, 15, 5, 10, 5, 10, 4, 5, 4, 5), 1, indices(0), nil, indices(0, 1, 0, 1), api.OK},
		// The fewest stacks are more than there can be.
		{light(5, 1, 2, 3, 4, 5, 6, 7, 8, 9), 9, indices(0, 1, 2, 3, 4, 5, 6, 7, 8), indices(0, 1, 2, 3), nil, api.ErrShip},
		{light(5, 9, 8, 7, 6, 5, 4, 3, 2, 1), 1, indices(0), nil, make([]int, 9), api.OK},
		// Two lists are the longest; the one with the lesser box comes first.
		{light(2, 1, 5, 3, 6), 3, indices(0, 1, 3), indices(0), nil, api.ErrShip},
		{light(2, 1, 5, 3, 4, 6), 4, indices(0, 2, 3, 4), indices(0, 2), nil, api.ErrShip},
		{light(2, 5, 6, 1, 2), 2, indices(0, 1), nil, indices(0, 1, 0, 1), api.OK},
		{light(2, 1, 2, 2), 2, indices(0, 1), nil, indices(0, 1, 1), api.OK},
		{light(2, 1, 1, 2), 2, indices(0, 2), nil, indices(0, 0, 1), api.OK},
		{light(1, 5, 6, 1, 2), 2, indices(0, 1), indices(0, 2), nil, api.ErrShip},
		// To leave one box late is less than to leave two early ones.
		{light(1, 1, 1, 2), 2, indices(0, 2), indices(2), nil, api.ErrShip},
		{light(3, 2, 3, 1, 2, 1), 2, indices(0, 1), nil, indices(0, 1, 0, 1, 0), api.OK},
	} {
		if n, err := ship.Fewest(c.load); n != c.fewest || err != api.OK {
			t.Error(i, n, err)
		}
		stow, err := ship.Smooth(c.load)
		if err != api.OK || len(stow) != len(c.load.Boxes) || !smoothTried(c.load.Boxes, stow) || !numbered(stow, c.fewest) {
			t.Error(i, stow, err)
		}
		if boxes, err := ship.Rising(c.load); !slices.Equal(boxes, c.rising) || err != api.OK {
			t.Error(i, boxes, err)
		}
		if boxes, err := ship.Left(c.load); !slices.Equal(boxes, c.left) || err != api.OK {
			t.Error(i, boxes, err)
		}
		if stow, err := ship.Stow(c.load); !slices.Equal(stow, c.stow) || err != c.err {
			t.Error(i, stow, err)
		}
	}
}

// numbered tells whether so many stacks are used, numbered from 0 on without a gap.
func numbered(stow []int, n int) bool {
	used := slices.Sorted(slices.Values(stow))
	used = slices.Compact(used)
	return len(used) == n && (n == 0 || used[0] == 0 && used[n-1] == n-1)
}

// TestChoices is P7.5 for Choices.
func TestChoices(t *testing.T) {
	high := load(3, 20, 5, 10, 6, 10, 5, 10, 6, 10)
	for i, c := range []struct {
		load    api.ShipLoad
		begun   []int
		choices []int
		err     api.Errno
	}{
		{loadA(), nil, indices(0, 1, 2), api.OK},
		{loadA(), indices(0, 0), indices(1, 2), api.OK},
		{loadA(), indices(2, 2), indices(0, 1), api.OK},
		{loadA(), indices(0, 0, 1, 1, 2), indices(0, 2), api.OK},
		{loadA(), indices(2, 2, 1, 1, 0), indices(0, 2), api.OK},
		{high, indices(2), indices(0, 1), api.OK},
		{high, indices(2, 1), indices(0, 1, 2), api.OK},
		{largest(), nil, indices(0, 1, 2, 3, 4), api.OK},
		{largest(), make([]int, 8), indices(0, 1, 2, 3, 4), api.OK},
		{smallest(), nil, indices(0), api.OK},

		// What is begun is not good, cannot be gone on with, or there is no good stow at all.
		{loadA(), indices(0, 0, 0), nil, api.OK},
		{loadA(), indices(0, 0, 1, 0), nil, api.OK},
		{loadA(), indices(0, 1, 2), nil, api.OK},
		{load(2, 10, 3, 9, 3, 9, 2, 1), indices(1, 1), nil, api.OK},
		{load(3, 10, 3, 9, 3, 9, 2, 1), indices(1, 1), nil, api.OK},
		{loadB(), nil, nil, api.OK},
		{loadB(), indices(0), nil, api.OK},
		{load(5, 9, 5, 10), nil, nil, api.OK},

		{loadA(), indices(0, 0, 1, 1, 2, 0), nil, api.ErrMany},
		{loadA(), make([]int, 7), nil, api.ErrMany},
		{loadA(), make([]int, 1000), nil, api.ErrMany},
		{load(1, 1), nil, nil, api.ErrMany},
		{smallest(), indices(0), nil, api.ErrMany},

		{loadA(), indices(3), nil, api.ErrArg},
		{loadA(), indices(0, 0, -1), nil, api.ErrArg},
		{loadA(), indices(math.MinInt), nil, api.ErrArg},
		{loadA(), indices(0, math.MaxInt), nil, api.ErrArg},
		{loadB(), indices(2), nil, api.ErrArg},

		// Several errors at once.
		{loadA(), slices.Repeat(indices(9), 6), nil, api.ErrMany},
		{loadA(), slices.Repeat(indices(-1), 7), nil, api.ErrMany},
		{load(1, 1), indices(-1), nil, api.ErrMany},
		{loadA(), indices(0, 0, 0, 3), nil, api.ErrArg},
	} {
		if stacks, err := ship.Choices(c.load, c.begun); !slices.Equal(stacks, c.choices) || err != c.err {
			t.Error(i, c.load, c.begun, stacks, err)
		}
	}
}
