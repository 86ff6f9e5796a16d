package ship_test

import (
	"slices"
	"testing"

	"senvy/api"
	"senvy/dice"
	"senvy/ship"
)

// indices returns a list of numbers: of boxes, of stacks, or of ports.
func indices(n ...int) []int { return n }

// load takes the port and the weight of each box.
func load(stacks int, floor int64, boxes ...int) api.ShipLoad {
	l := api.ShipLoad{Stacks: stacks, Floor: floor}
	for i := 0; i < len(boxes); i += 2 {
		l.Boxes = append(l.Boxes, api.ShipBox{Port: boxes[i], Weight: int64(boxes[i+1])})
	}
	return l
}

// light takes the port of each box; no stack can become too heavy.
func light(stacks int, ports ...int) api.ShipLoad {
	l := api.ShipLoad{Stacks: stacks, Floor: api.MaxShipFloor}
	for _, port := range ports {
		l.Boxes = append(l.Boxes, api.ShipBox{Port: port, Weight: 1})
	}
	return l
}

// loadA, loadB and loadC are the loads A, B and C of the chapter.
func loadA() api.ShipLoad { return load(3, 40, 3, 10, 1, 20, 2, 10, 2, 30, 4, 5, 1, 10) }

func loadB() api.ShipLoad {
	l := loadA()
	l.Stacks = 2
	return l
}

func loadC() api.ShipLoad {
	l := loadA()
	l.Stacks, l.Floor = 4, 35
	return l
}

// largest returns a load of which all is as great as it can be.
func largest() api.ShipLoad {
	return api.ShipLoad{
		Boxes:  slices.Repeat([]api.ShipBox{{Port: api.MaxShipPort, Weight: api.MaxShipWeight}}, api.MaxShipBoxes),
		Stacks: api.MaxShipStacks,
		Floor:  api.MaxShipFloor,
	}
}

// smallest returns a load of one box of which all is as small as it can be.
func smallest() api.ShipLoad { return load(1, 1, 1, 1) }

// clone returns a load that shares no memory with another one.
func clone(l api.ShipLoad) api.ShipLoad {
	l.Boxes = slices.Clone(l.Boxes)
	return l
}

// boxesThrown throws so many boxes, with ports from lo to hi.
func boxesThrown(d *dice.Dice, n int, lo, hi, heaviest int64) []api.ShipBox {
	var boxes []api.ShipBox
	for range n {
		boxes = append(boxes, api.ShipBox{Port: int(d.From(lo, hi)), Weight: d.From(1, heaviest)})
	}
	return boxes
}

// thrown throws a load with at most so many boxes: of few ports and of many, with floors that are hard to keep, or easy.
func thrown(d *dice.Dice, most int) api.ShipLoad {
	last := []int64{2, 4, 8, api.MaxShipPort}[d.Below(4)]
	heaviest := []int64{1, 5, api.MaxShipWeight}[d.Below(3)]
	boxes := boxesThrown(d, d.Below(most+1), 1, last, heaviest)
	sum := int64(1)
	for _, box := range boxes {
		sum += box.Weight
	}
	stacks := 1 + d.Below(api.MaxShipStacks)
	if d.Below(3) > 0 {
		stacks = min(fewestTried(boxes)+d.Below(3)-1, api.MaxShipStacks)
	}
	l := api.ShipLoad{Boxes: boxes, Stacks: max(stacks, 1), Floor: sum}
	if d.Below(3) > 0 {
		l.Floor = d.From(max(sum/int64(l.Stacks), 1), max(2*sum/int64(l.Stacks), 1))
	}
	return l
}

// loads throws so many valid loads with at most so many boxes: some can be stowed, some not, and some only if Floor is not kept.
func loads(t *testing.T, seed dice.Dice, n, most int) []api.ShipLoad {
	t.Helper()
	var all []api.ShipLoad
	good, heavy := 0, 0
	for range n {
		l := thrown(&seed, most)
		if err := ship.CheckLoad(l); err != api.OK {
			t.Fatal(l, err)
		}
		if _, ok := firstTried(l); ok {
			good++
		} else if fewestTried(l.Boxes) <= l.Stacks {
			heavy++
		}
		all = append(all, l)
	}
	if good < n/4 || good > n*19/20 || heavy < n/20 {
		t.Fatalf("of %d loads %d can be stowed, and %d are too heavy", n, good, heavy)
	}
	return all
}

// fewest returns what Fewest tells without an error.
func fewest(t *testing.T, l api.ShipLoad) int {
	t.Helper()
	n, err := ship.Fewest(l)
	if err != api.OK {
		t.Fatal(l, n, err)
	}
	return n
}

// list returns what a function tells without an error.
func list(t *testing.T, of func(api.ShipLoad) ([]int, api.Errno), l api.ShipLoad) []int {
	t.Helper()
	out, err := of(l)
	if err != api.OK {
		t.Fatal(l, out, err)
	}
	return out
}

// choices returns what Choices tells without an error.
func choices(t *testing.T, l api.ShipLoad, begun []int) []int {
	t.Helper()
	out, err := ship.Choices(l, begun)
	if err != api.OK {
		t.Fatal(l, begun, out, err)
	}
	return out
}

// turned returns a load whose boxes come in the opposite order, each with the port on the other side.
func turned(l api.ShipLoad) api.ShipLoad {
	l = clone(l)
	slices.Reverse(l.Boxes)
	for i := range l.Boxes {
		l.Boxes[i].Port = api.MaxShipPort + 1 - l.Boxes[i].Port
	}
	return l
}

// without returns a load without some boxes.
func without(l api.ShipLoad, boxes ...int) api.ShipLoad {
	var others []api.ShipBox
	for i, box := range l.Boxes {
		if !slices.Contains(boxes, i) {
			others = append(others, box)
		}
	}
	l.Boxes = others
	return l
}

// together returns the boxes of one load, and after them those of another one.
func together(one, two api.ShipLoad) api.ShipLoad {
	one.Boxes = slices.Concat(one.Boxes, two.Boxes)
	return one
}
