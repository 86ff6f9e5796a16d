package stone_test

import (
	"slices"

	"senvy/api"
)

// warmRoom and coolRoom are the rooms with the greatest and with the least numbers.
func warmRoom(m api.StoneMill) []int64 {
	var room []int64
	for _, hour := range m.Hours {
		room = append(room, hour.Room.Hi)
	}
	return room
}

func coolRoom(m api.StoneMill) []int64 {
	var room []int64
	for _, hour := range m.Hours {
		room = append(room, hour.Room.Lo)
	}
	return room
}

// simulate returns the heats at the end of all hours from one on, straight from their definition.
func simulate(m api.StoneMill, plan []int, room []int64, from int, heat int64) []int64 {
	var out []int64
	for hour := from; hour < len(plan); hour++ {
		if plan[hour] == 1 {
			if room[hour] > heat {
				heat = room[hour]
			}
			heat += m.Gain
		} else {
			heat -= m.Fall
			if room[hour] > heat {
				heat = room[hour]
			}
		}
		out = append(out, heat)
	}
	return out
}

// isSafe tells whether no heat is above a limit.
func isSafe(m api.StoneMill, plan []int, room []int64, limit int64) bool {
	for _, heat := range simulate(m, plan, room, 0, m.Start) {
		if heat > limit {
			return false
		}
	}
	return true
}

func isAlwaysSafe(m api.StoneMill, plan []int) bool { return isSafe(m, plan, warmRoom(m), m.Limit) }

// canRest tells whether no room is too warm.
func canRest(m api.StoneMill) bool {
	return slices.Max(warmRoom(m)) <= m.Limit
}

func grinding(m api.StoneMill, plan []int) int64 {
	var sum int64
	for hour, work := range plan {
		sum += int64(work) * m.Hours[hour].Pounds
	}
	return sum
}

// everyPlan calls a function with all plans for so many hours, in lexicographic order.
func everyPlan(hours int, visit func(plan []int)) {
	for code := range 1 << hours {
		plan := make([]int, hours)
		for i := range plan {
			plan[i] = code >> (hours - 1 - i) & 1
		}
		visit(plan)
	}
}

// everyRoom calls a function with all rooms that a mill can have.
func everyRoom(m api.StoneMill, visit func(room []int64)) {
	room := make([]int64, len(m.Hours))
	var fill func(hour int)
	fill = func(hour int) {
		if hour == len(room) {
			visit(room)
			return
		}
		for n := m.Hours[hour].Room.Lo; n <= m.Hours[hour].Room.Hi; n++ {
			room[hour] = n
			fill(hour + 1)
		}
	}
	fill(0)
}

// tryPlans tries all plans, and returns the best one and how much it grinds, if one is always safe.
func tryPlans(m api.StoneMill) ([]int, int64, bool) {
	var best []int
	var most int64
	everyPlan(len(m.Hours), func(plan []int) {
		if n := grinding(m, plan); isAlwaysSafe(m, plan) && (best == nil || n > most) {
			best, most = plan, n
		}
	})
	return best, most, best != nil
}

// needs returns the least number that a right table can have for an hour and a heat at its beginning.
func needs(m api.StoneMill, table [][]int64, hour int, heat int64) int64 {
	var need int64
	room := m.Hours[hour].Room.Hi
	if end := max(heat-m.Fall, room); end <= m.Limit {
		need = table[hour+1][end]
	}
	if end := max(heat, room) + m.Gain; end <= m.Limit {
		need = max(need, m.Hours[hour].Pounds+table[hour+1][end])
	}
	return need
}

// checkTable does what CheckTable of a valid mill has to do.
func checkTable(m api.StoneMill, table [][]int64) (int64, api.Errno) {
	if len(table) != len(m.Hours)+1 {
		return 0, api.ErrEqual
	}
	for _, row := range table {
		if len(row) != int(m.Limit)+1 {
			return 0, api.ErrEqual
		}
	}
	for _, row := range table {
		for _, n := range row {
			if n < 0 || n > 1200 {
				return 0, api.ErrRange
			}
		}
	}
	for hour := range m.Hours {
		for heat := range m.Limit + 1 {
			if table[hour][heat] < needs(m, table, hour, heat) {
				return 0, api.ErrSum
			}
		}
	}
	return table[0][m.Start], api.OK
}

// trySpares tries by how much the limit can be less, and the room warmer.
func trySpares(m api.StoneMill, plan []int) (int64, int64) {
	var less, warmer int64
	for isSafe(m, plan, warmRoom(m), m.Limit-less-1) {
		less++
	}
	for {
		room := warmRoom(m)
		for i := range room {
			room[i] += warmer + 1
		}
		if !isSafe(m, plan, room, m.Limit) {
			return less, warmer
		}
		warmer++
	}
}

// tryLatest tries all heats at the beginning of each hour.
func tryLatest(m api.StoneMill, plan []int) []int64 {
	out := make([]int64, len(plan))
	for hour := range plan {
		for heat := range m.Limit + 1 {
			if slices.Max(simulate(m, plan, warmRoom(m), hour, heat)) <= m.Limit {
				out[hour] = heat
			}
		}
	}
	return out
}
