package stone

import "senvy/api"

// The bounds of what a mill, a plan and a table can contain.
var (
	heats  = api.Range{Lo: 0, Hi: api.MaxStoneHeat}
	steps  = api.Range{Lo: 1, Hi: api.MaxStoneHeat}
	pounds = api.Range{Lo: 1, Hi: api.MaxStonePounds}
	hours  = api.Range{Lo: 1, Hi: api.MaxStoneHours}
	works  = api.Range{Lo: rests, Hi: grinds}
	sums   = api.Range{Lo: 0, Hi: api.MaxStoneAll}
)

// within reports whether all numbers are within a range.
func within(r api.Range, numbers ...int64) bool {
	for _, n := range numbers {
		if n < r.Lo || n > r.Hi {
			return false
		}
	}
	return true
}

// valid reports whether a range is one, and within another one.
func valid(r, limits api.Range) bool {
	return r.Lo <= r.Hi && within(limits, r.Lo, r.Hi)
}

// numbersFit reports whether the numbers of a mill, and of its hours, are as they can be.
func numbersFit(m api.StoneMill) bool {
	for _, hour := range m.Hours {
		if !valid(hour.Room, heats) || !within(pounds, hour.Pounds) {
			return false
		}
	}
	return valid(api.Range{Lo: m.Start, Hi: m.Limit}, heats) && within(steps, m.Gain, m.Fall)
}

// checkWork returns the error of a mill, or of a plan.
func checkWork(m api.StoneMill, plan []int) api.Errno {
	if err := CheckMill(m); err != api.OK {
		return err
	}
	if len(plan) != len(m.Hours) {
		return api.ErrEqual
	}
	for _, work := range plan {
		if !within(works, int64(work)) {
			return api.ErrRange
		}
	}
	return api.OK
}

// shaped reports whether a table has a number for each heat, for each hour and for the end of the last one.
func shaped(m api.StoneMill, table [][]int64) bool {
	for _, row := range table {
		if int64(len(row)) != m.Limit+1 {
			return false
		}
	}
	return len(table) == len(m.Hours)+1
}

// summed reports whether each number of a table can be a sum of pounds.
func summed(table [][]int64) bool {
	for _, row := range table {
		if !within(sums, row...) {
			return false
		}
	}
	return true
}
