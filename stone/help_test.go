package stone_test

import (
	"slices"
	"testing"

	"senvy/api"
	"senvy/dice"
	"senvy/stone"
)

func to(lo, hi int64) api.Range { return api.Range{Lo: lo, Hi: hi} }

func works(n ...int) []int       { return n }
func numbers(n ...int64) []int64 { return n }

// mill takes three numbers for each hour: both ends of its Room, and its Pounds.
func mill(start, limit, gain, fall int64, hours ...int64) api.StoneMill {
	m := api.StoneMill{Start: start, Limit: limit, Gain: gain, Fall: fall}
	for i := 0; i < len(hours); i += 3 {
		m.Hours = append(m.Hours, api.StoneHour{Room: to(hours[i], hours[i+1]), Pounds: hours[i+2]})
	}
	return m
}

// millM is the mill M of the chapter, with a Limit.
func millM(limit int64) api.StoneMill {
	return mill(10, limit, 6, 4, 8, 10, 4, 8, 10, 6, 9, 12, 5, 9, 12, 6, 8, 10, 4)
}

// long returns a mill with so many equal hours.
func long(hours int) api.StoneMill {
	return mill(0, 40, 1, 1, slices.Repeat(numbers(0, 0, 1), hours)...)
}

// clone returns a mill that shares no memory with another one.
func clone(m api.StoneMill) api.StoneMill {
	m.Hours = slices.Clone(m.Hours)
	return m
}

func cloneTable(table [][]int64) [][]int64 {
	out := make([][]int64, len(table))
	for i, row := range table {
		out[i] = slices.Clone(row)
	}
	return out
}

// thrown throws a mill of at most so many hours, in about three of four of which some plan is always safe.
func thrown(d *dice.Dice, hours int) api.StoneMill {
	m := api.StoneMill{Limit: d.From(0, api.MaxStoneHeat), Gain: d.From(1, 9), Fall: d.From(1, 6)}
	m.Start = d.From(0, m.Limit)
	greatest := int64(3)
	if d.Below(3) == 0 {
		greatest = api.MaxStonePounds
	}
	for range 1 + d.Below(hours) {
		hi := d.From(0, m.Limit)
		m.Hours = append(m.Hours, api.StoneHour{Room: to(d.From(max(hi-6, 0), hi), hi), Pounds: d.From(1, greatest)})
	}
	if d.Below(4) == 0 {
		room := &m.Hours[d.Below(len(m.Hours))].Room
		room.Hi = min(m.Limit+d.From(0, 2), api.MaxStoneHeat)
	}
	return m
}

// mills throws so many valid mills.
func mills(t *testing.T, seed dice.Dice, n, hours int) []api.StoneMill {
	t.Helper()
	var all []api.StoneMill
	safe := 0
	for range n {
		m := thrown(&seed, hours)
		if err := stone.CheckMill(m); err != api.OK {
			t.Fatal(m, err)
		}
		if canRest(m) {
			safe++
		}
		all = append(all, m)
	}
	if safe < n*6/10 || safe > n*95/100 {
		t.Fatalf("of %d mills %d can rest", n, safe)
	}
	return all
}

// planThrown throws a plan for a mill, in which the stones rest more often than not.
func planThrown(d *dice.Dice, m api.StoneMill) []int {
	var plan []int
	for range m.Hours {
		plan = append(plan, max(d.Below(5)-3, 0))
	}
	return plan
}

// roomThrown throws a room that a mill can have.
func roomThrown(d *dice.Dice, m api.StoneMill) []int64 {
	var room []int64
	for _, hour := range m.Hours {
		room = append(room, d.From(hour.Room.Lo, hour.Room.Hi))
	}
	return room
}

// inRoom returns a mill of which the room is known.
func inRoom(m api.StoneMill, room []int64) api.StoneMill {
	m = clone(m)
	for i := range m.Hours {
		m.Hours[i].Room = to(room[i], room[i])
	}
	return m
}

// most returns what Most tells, and whether there is a plan.
func most(t *testing.T, m api.StoneMill) (int64, bool) {
	t.Helper()
	n, err := stone.Most(m)
	if err != api.OK && err != api.ErrPlan {
		t.Fatal(m, n, err)
	}
	return n, err == api.OK
}

// heatsOf returns what Heats tells of a plan without an error.
func heatsOf(t *testing.T, m api.StoneMill, plan []int, warm bool) []int64 {
	t.Helper()
	out, err := stone.Heats(m, plan, warm)
	if err != api.OK {
		t.Fatal(m, plan, err)
	}
	return out
}

// noneGreater tells whether no number is greater than that of another list.
func noneGreater(list, other []int64) bool {
	for i, n := range list {
		if n > other[i] {
			return false
		}
	}
	return len(list) == len(other)
}
