package ship_test

import (
	"slices"
	"testing"

	"senvy/api"
	"senvy/dice"
	"senvy/ship"
)

// TestTriedStows compares all that is told of stows with the definitions, for all stows of small loads (P7.2, P7.5, P7.7, P7.11).
func TestTriedStows(t *testing.T) {
	counts := map[api.Errno]int{}
	for _, l := range append(loads(t, 1, 1500, 5), loadA(), loadB()) {
		stows(len(l.Boxes), l.Stacks, func(stow []int) bool {
			counts[compareStow(t, l, stow)]++
			return true
		})
		good := goodOnes(l)
		stow, err := ship.Stow(l)
		if len(good) == 0 && (len(stow) > 0 || err != api.ErrShip) || len(good) > 0 && (!slices.Equal(stow, good[0]) || err != api.OK) {
			t.Fatal(l, stow, err)
		}
	}
	if min(counts[api.OK], counts[api.ErrOver], counts[api.ErrShip]) < 500 || len(counts) != 3 {
		t.Error(counts)
	}
}

// compareStow compares CheckStow and Out with the definitions, and returns what CheckStow has to return.
func compareStow(t *testing.T, l api.ShipLoad, stow []int) api.Errno {
	t.Helper()
	smooth := smoothTried(l.Boxes, stow)
	n, most, want := len(weighed(l.Boxes, stow)), heaviest(l.Boxes, stow), api.OK
	if !goodTried(l, stow) {
		n, most, want = 0, 0, api.ErrOver
	}
	if !smooth {
		want = api.ErrShip
	}
	if gotN, gotMost, err := ship.CheckStow(l, stow); gotN != n || gotMost != most || err != want {
		t.Fatal(l, stow, gotN, gotMost, err)
	}
	out, err := ship.Out(l, stow)
	if !smooth {
		if len(out) > 0 || err != api.ErrShip {
			t.Fatal(l, stow, out, err)
		}
		return want
	}
	// outTried takes no box from under another one: so all are out just if each was the topmost one.
	if tried := outTried(l, stow); len(tried) != len(stow) || !slices.Equal(out, tried) || err != api.OK {
		t.Fatal(l, stow, out, err, tried)
	}
	return want
}

// TestTriedStacks compares Fewest, Smooth, Rising and Stow with what trying all stows and all lists of boxes finds (P7.3, P7.4, P7.5, P7.8).
func TestTriedStacks(t *testing.T) {
	counts := map[int]int{}
	for _, l := range append(loads(t, 2, 3000, api.MaxShipBoxes), loadA(), largest()) {
		n := fewest(t, l)
		if n != fewestTried(l.Boxes) {
			t.Fatal(l, n)
		}
		if stow := list(t, ship.Smooth, l); len(stow) != len(l.Boxes) || !smoothTried(l.Boxes, stow) || !numbered(stow, n) {
			t.Fatal(l, stow, n)
		}
		rising := list(t, ship.Rising, l)
		if !slices.Equal(rising, risingTried(l)) || len(rising) != n {
			t.Fatal(l, rising, n)
		}
		if most, err := ship.CheckRising(l, rising); most != n || err != api.OK {
			t.Fatal(l, rising, most, err)
		}
		want, ok := firstTried(l)
		if stow, err := ship.Stow(l); !slices.Equal(stow, want) || (err == api.OK) != ok || !ok && err != api.ErrShip {
			t.Fatal(l, stow, err, want)
		}
		counts[n]++
	}
	if len(counts) < 6 {
		t.Error(counts)
	}
}

// TestTriedRising compares CheckRising with the definition, for all lists of boxes, and for lists that are none.
func TestTriedRising(t *testing.T) {
	counts := map[api.Errno]int{}
	for _, l := range loads(t, 3, 400, api.MaxShipBoxes) {
		parts(len(l.Boxes), func(boxes []int) {
			n, want := len(boxes), api.OK
			if !riseTried(l, boxes) {
				n, want = 0, api.ErrRule
			}
			if got, err := ship.CheckRising(l, boxes); got != n || err != want {
				t.Fatal(l, boxes, got, err)
			}
			counts[want]++
			for _, wrong := range [][]int{append(slices.Clone(boxes), len(l.Boxes)), append(indices(-1), boxes...)} {
				if got, err := ship.CheckRising(l, wrong); got != 0 || err != api.ErrArg {
					t.Fatal(l, wrong, got, err)
				}
			}
		})
	}
	if min(counts[api.OK], counts[api.ErrRule]) < 200 {
		t.Error(counts)
	}
}

// TestTriedLeft compares Left with what trying all lists of boxes finds (P7.6).
func TestTriedLeft(t *testing.T) {
	several := 0
	for _, l := range append(loads(t, 4, 2000, 7), loadA(), loadB()) {
		boxes := list(t, ship.Left, l)
		if !slices.Equal(boxes, leftTried(l)) {
			t.Fatal(l, boxes, leftTried(l))
		}
		several += min(len(boxes)/2, 1)
	}
	if several < 30 {
		t.Error(several)
	}
}

// TestProved is P7.8: boxes that rise prove that there are no fewer stacks.
func TestProved(t *testing.T) {
	for _, l := range loads(t, 5, 400, 6) {
		rising := list(t, ship.Rising, l)
		gapless(len(l.Boxes), len(l.Boxes), func(stow []int, used int) bool {
			if !smoothTried(l.Boxes, stow) {
				return true
			}
			parts(len(l.Boxes), func(boxes []int) {
				if n, err := ship.CheckRising(l, boxes); err == api.OK && n > used {
					t.Fatal(l, stow, boxes)
				}
			})
			if used < len(rising) {
				t.Fatal(l, stow, rising)
			}
			return true
		})
	}
}

// TestChosen is P7.9, and compares Choices with the definition (P7.5).
func TestChosen(t *testing.T) {
	d := dice.Dice(6)
	some, dead := 0, 0
	for _, l := range append(loads(t, 7, 1500, 6), loadA(), loadC()) {
		good := goodOnes(l)
		for range 20 {
			begun := make([]int, d.Below(len(l.Boxes)+1))
			for i := range begun {
				begun[i] = d.Below(l.Stacks)
			}
			if len(good) > 0 && d.Below(2) == 0 {
				copy(begun, good[d.Below(len(good))])
			}
			if len(begun) == len(l.Boxes) {
				continue
			}
			stacks := choices(t, l, begun)
			if !slices.Equal(stacks, goesTo(good, begun)) {
				t.Fatal(l, begun, stacks, goesTo(good, begun))
			}
			some += min(len(stacks), 1)
			if len(good) > 0 && len(stacks) == 0 {
				dead++
			}
		}
	}
	if min(some, dead) < 200 {
		t.Error(some, dead)
	}
}

// goesTo returns the stacks with which some of the good stows go on that begin so.
func goesTo(good [][]int, begun []int) []int {
	var stacks []int
	for _, stow := range good {
		if slices.Equal(stow[:len(begun)], begun) {
			stacks = append(stacks, stow[len(begun)])
		}
	}
	slices.Sort(stacks)
	return slices.Compact(stacks)
}

// TestChosenOn is P7.9: with choices alone all boxes are stowed, and with the first ones as in the first stow.
func TestChosenOn(t *testing.T) {
	d := dice.Dice(8)
	walked := 0
	for _, l := range append(loads(t, 9, 1000, api.MaxShipBoxes), loadA(), loadC()) {
		first, err := ship.Stow(l)
		if len(l.Boxes) == 0 {
			continue
		}
		if begins := len(choices(t, l, nil)) > 0; begins != (err == api.OK) {
			t.Fatal(l, begins, err)
		}
		if err != api.OK {
			continue
		}
		walked++
		for _, pick := range []func(stacks []int) int{
			func(stacks []int) int { return stacks[0] },
			func(stacks []int) int { return stacks[len(stacks)-1] },
			func(stacks []int) int { return stacks[d.Below(len(stacks))] },
		} {
			stow := walk(t, l, pick)
			if _, _, err := ship.CheckStow(l, stow); err != api.OK {
				t.Fatal(l, stow, err)
			}
		}
		if stow := walk(t, l, func(stacks []int) int { return stacks[0] }); !slices.Equal(stow, first) {
			t.Fatal(l, stow, first)
		}
	}
	if walked < 50 {
		t.Error(walked)
	}
}

// walk takes a choice for each box, and checks that there is one.
func walk(t *testing.T, l api.ShipLoad, pick func(stacks []int) int) []int {
	t.Helper()
	var stow []int
	for range l.Boxes {
		stacks := choices(t, l, stow)
		if len(stacks) == 0 {
			t.Fatal(l, stow)
		}
		stow = append(stow, pick(stacks))
	}
	return stow
}

// TestLeft is P7.10.
func TestLeft(t *testing.T) {
	left := 0
	for _, l := range append(loads(t, 10, 1500, api.MaxShipBoxes), loadA(), loadB(), largest()) {
		boxes := list(t, ship.Left, l)
		if (len(boxes) == 0) != (fewest(t, l) <= l.Stacks) || !slices.IsSorted(boxes) {
			t.Fatal(l, boxes)
		}
		if n := fewest(t, without(l, boxes...)); n > l.Stacks {
			t.Fatal(l, boxes, n)
		}
		for i := range boxes {
			fewer := slices.Delete(slices.Clone(boxes), i, i+1)
			if n := fewest(t, without(l, fewer...)); n <= l.Stacks {
				t.Fatal(l, boxes, fewer, n)
			}
		}
		left += min(len(boxes), 1)
	}
	if left < 200 {
		t.Error(left)
	}
}

// TestOut is P7.11 for large loads.
func TestOut(t *testing.T) {
	large := 0
	for _, l := range loads(t, 11, 800, api.MaxShipBoxes) {
		l.Stacks = api.MaxShipStacks
		stow := list(t, ship.Smooth, l)
		if fewest(t, l) > l.Stacks {
			continue
		}
		compareOut(t, l, stow)
		compareOut(t, l, mirrored(stow))
		large += len(stow) / api.MaxShipBoxes
	}
	if large < 30 {
		t.Error(large)
	}
}

// compareOut checks that the boxes of a stow go out port by port, each when all that came later into its stack are gone.
func compareOut(t *testing.T, l api.ShipLoad, stow []int) {
	t.Helper()
	out, err := ship.Out(l, stow)
	if err != api.OK || len(out) != len(l.Boxes) {
		t.Fatal(l, stow, out, err)
	}
	gone := make([]bool, len(l.Boxes))
	for i, box := range out {
		if gone[box] || i > 0 && l.Boxes[out[i-1]].Port > l.Boxes[box].Port {
			t.Fatal(l, stow, out)
		}
		gone[box] = true
		for above := box + 1; above < len(stow); above++ {
			if stow[above] == stow[box] && !gone[above] {
				t.Fatal(l, stow, out)
			}
		}
	}
}

// mirrored returns a stow with its stacks numbered the other way round.
func mirrored(stow []int) []int {
	stow = slices.Clone(stow)
	for i := range stow {
		stow[i] = api.MaxShipStacks - 1 - stow[i]
	}
	return stow
}

// TestOtherWay is P7.12.
func TestOtherWay(t *testing.T) {
	for _, l := range append(loads(t, 12, 1500, api.MaxShipBoxes), loadA(), largest()) {
		back := turned(l)
		if n, m := fewest(t, l), fewest(t, back); n != m {
			t.Fatal(l, n, m)
		}
		if n, m := len(list(t, ship.Rising, l)), len(list(t, ship.Rising, back)); n != m {
			t.Fatal(l, n, m)
		}
		if n, m := len(list(t, ship.Left, l)), len(list(t, ship.Left, back)); n != m {
			t.Fatal(l, n, m)
		}
	}
}

// TestOneMore is P7.13 for one more box.
func TestOneMore(t *testing.T) {
	d := dice.Dice(13)
	counts := map[int]int{}
	for _, l := range loads(t, 14, 1500, api.MaxShipBoxes-1) {
		n := fewest(t, l)
		more := clone(l)
		more.Boxes = append(more.Boxes, boxesThrown(&d, 1, 1, api.MaxShipPort, api.MaxShipWeight)...)
		m := fewest(t, more)
		if m != n && m != n+1 {
			t.Fatal(more, n, m)
		}
		counts[m-n]++
	}
	if min(counts[0], counts[1]) < 200 {
		t.Error(counts)
	}
}

// TestMoreRoom is P7.13 for more stacks, and a greater floor.
func TestMoreRoom(t *testing.T) {
	d := dice.Dice(15)
	stowed, more := 0, 0
	for _, l := range loads(t, 16, 600, api.MaxShipBoxes) {
		room := l
		room.Stacks = int(d.From(int64(l.Stacks), api.MaxShipStacks))
		room.Floor = min(l.Floor+int64(d.Below(20)), api.MaxShipFloor)
		stow, err := ship.Stow(l)
		if _, can := ship.Stow(room); err == api.OK && can != api.OK {
			t.Fatal(l, room, can)
		} else if err != can {
			more++
		}
		if err != api.OK {
			continue
		}
		stowed++
		n, most, err := ship.CheckStow(l, stow)
		if m, as, bad := ship.CheckStow(room, stow); m != n || as != most || err != api.OK || bad != api.OK {
			t.Fatal(l, room, stow, n, most, err, m, as, bad)
		}
	}
	if min(stowed, more) < 50 {
		t.Error(stowed, more)
	}
}

// TestTwoLoads is P7.14.
func TestTwoLoads(t *testing.T) {
	d := dice.Dice(17)
	several := 0
	for range 1500 {
		border := d.From(1, api.MaxShipPort-1)
		n := d.Below(api.MaxShipBoxes + 1)
		low, high := load(5, 1000), load(5, 1000)
		high.Boxes = boxesThrown(&d, n, border, api.MaxShipPort, 9)
		low.Boxes = boxesThrown(&d, api.MaxShipBoxes-n, 1, border, 9)
		one, two := fewest(t, high), fewest(t, low)
		// Some ports can be the border: then they are of both loads.
		if got := fewest(t, together(high, low)); got != max(one, two) {
			t.Fatal(high, low, one, two, got)
		}
		for i := range high.Boxes {
			high.Boxes[i].Port = max(high.Boxes[i].Port, int(border)+1)
		}
		one = fewest(t, high)
		if got := fewest(t, together(low, high)); got != one+two {
			t.Fatal(high, low, one, two, got)
		}
		several += min(one/2, two/2, 1)
	}
	if several < 200 {
		t.Error(several)
	}
}
