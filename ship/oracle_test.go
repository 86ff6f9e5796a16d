package ship_test

import "senvy/api"

// smoothTried tells whether no box lies on one whose port is less.
func smoothTried(boxes []api.ShipBox, stow []int) bool {
	for under := range stow {
		for box := under + 1; box < len(stow); box++ {
			if stow[box] == stow[under] && boxes[under].Port < boxes[box].Port {
				return false
			}
		}
	}
	return true
}

// weighed tells what each stack weighs that has boxes.
func weighed(boxes []api.ShipBox, stow []int) map[int]int64 {
	sums := map[int]int64{}
	for box, stack := range stow {
		sums[stack] += boxes[box].Weight
	}
	return sums
}

// heaviest returns the greatest weight of a stack.
func heaviest(boxes []api.ShipBox, stow []int) int64 {
	most := int64(0)
	for _, sum := range weighed(boxes, stow) {
		most = max(most, sum)
	}
	return most
}

// goodTried tells whether a stow is good.
func goodTried(l api.ShipLoad, stow []int) bool {
	return smoothTried(l.Boxes, stow) && heaviest(l.Boxes, stow) <= l.Floor
}

// stows calls a function with each stow of some boxes, in lexicographic order, until it returns false.
func stows(boxes, stacks int, visit func(stow []int) bool) {
	stow := make([]int, boxes)
	for {
		if !visit(stow) {
			return
		}
		at := boxes - 1
		for at >= 0 && stow[at] == stacks-1 {
			stow[at] = 0
			at--
		}
		if at < 0 {
			return
		}
		stow[at]++
	}
}

// goodOnes returns all good stows, in lexicographic order.
func goodOnes(l api.ShipLoad) [][]int {
	var all [][]int
	stows(len(l.Boxes), l.Stacks, func(stow []int) bool {
		if goodTried(l, stow) {
			all = append(all, append([]int{}, stow...))
		}
		return true
	})
	return all
}

// gapless calls a function with each stow of some boxes whose stacks are numbered as they are needed, until it returns false; the stow that it gets goes on to be changed.
// Each stow is one of these, if its stacks are numbered anew; and of equal ones they come first.
func gapless(boxes, stacks int, visit func(stow []int, used int) bool) {
	var stow []int
	var fill func(used int) bool
	fill = func(used int) bool {
		if len(stow) == boxes {
			return visit(stow, used)
		}
		for stack := range min(used+1, stacks) {
			stow = append(stow, stack)
			on := fill(max(used, stack+1))
			stow = stow[:len(stow)-1]
			if !on {
				return false
			}
		}
		return true
	}
	fill(0)
}

// firstTried returns the first good stow.
func firstTried(l api.ShipLoad) ([]int, bool) {
	var first []int
	found := false
	gapless(len(l.Boxes), l.Stacks, func(stow []int, _ int) bool {
		found = goodTried(l, stow)
		if found {
			first = append(first, stow...)
		}
		return !found
	})
	return first, found
}

// fewestTried returns the least number of stacks of a smooth stow.
func fewestTried(boxes []api.ShipBox) int {
	least := len(boxes)
	gapless(len(boxes), len(boxes), func(stow []int, used int) bool {
		if used < least && smoothTried(boxes, stow) {
			least = used
		}
		return true
	})
	return least
}

// parts calls a function with each strictly increasing list of the numbers from 0 to n - 1.
func parts(n int, visit func(part []int)) {
	for set := range 1 << n {
		var part []int
		for i := range n {
			if set>>i&1 == 1 {
				part = append(part, i)
			}
		}
		visit(part)
	}
}

// comesFirst tells whether a list comes before another one of the same length in lexicographic order.
func comesFirst(list, other []int) bool {
	for i := range list {
		if list[i] != other[i] {
			return list[i] < other[i]
		}
	}
	return false
}

// riseTried tells whether boxes rise.
func riseTried(l api.ShipLoad, boxes []int) bool {
	for i, one := range boxes {
		for _, two := range boxes[i+1:] {
			if one >= two || l.Boxes[one].Port >= l.Boxes[two].Port {
				return false
			}
		}
	}
	return true
}

// risingTried tries all lists of boxes.
func risingTried(l api.ShipLoad) []int {
	var longest []int
	parts(len(l.Boxes), func(boxes []int) {
		if riseTried(l, boxes) && (len(boxes) > len(longest) || len(boxes) == len(longest) && comesFirst(boxes, longest)) {
			longest = boxes
		}
	})
	return longest
}

// leftTried tries all lists of boxes.
func leftTried(l api.ShipLoad) []int {
	var best []int
	found := false
	parts(len(l.Boxes), func(boxes []int) {
		if found && (len(boxes) > len(best) || len(boxes) == len(best) && !comesFirst(boxes, best)) {
			return
		}
		if fewestTried(without(l, boxes...).Boxes) <= l.Stacks {
			best, found = boxes, true
		}
	})
	return best
}

// outTried takes the boxes of a stow out from the tops of the stacks, port by port; those that are not on top stay where they are.
func outTried(l api.ShipLoad, stow []int) []int {
	stacks := make([][]int, l.Stacks)
	for box, stack := range stow {
		stacks[stack] = append(stacks[stack], box)
	}
	var out []int
	for port := 1; port <= api.MaxShipPort; port++ {
		for i := range stacks {
			for len(stacks[i]) > 0 && l.Boxes[stacks[i][len(stacks[i])-1]].Port == port {
				out = append(out, stacks[i][len(stacks[i])-1])
				stacks[i] = stacks[i][:len(stacks[i])-1]
			}
		}
	}
	return out
}
