package stone_test

import (
	"math"
	"slices"
	"testing"

	"senvy/api"
	"senvy/stone"
)

// millCase is a mill and what CheckMill has to return.
type millCase struct {
	name string
	m    api.StoneMill
	err  api.Errno
}

func millCases() []millCase {
	return []millCase{
		{"M", millM(20), api.OK},
		{"the least one", mill(0, 0, 1, 1, 0, 0, 1), api.OK},
		{"the greatest one", mill(40, 40, 40, 40, slices.Repeat(numbers(40, 40, 100), 12)...), api.OK},
		{"one hour", long(1), api.OK},
		{"twelve hours", long(12), api.OK},
		{"a room that is above the limit", mill(3, 5, 1, 1, 0, 40, 1), api.OK},
		{"start at the limit", mill(5, 5, 1, 1, 0, 1, 1), api.OK},

		{"no hour", long(0), api.ErrMany},
		{"an empty list of hours", api.StoneMill{Start: 0, Limit: 1, Gain: 1, Fall: 1, Hours: []api.StoneHour{}}, api.ErrMany},
		{"thirteen hours", long(13), api.ErrMany},
		{"hundred hours", long(100), api.ErrMany},

		{"start below 0", mill(-1, 9, 1, 1, 0, 0, 1), api.ErrRange},
		{"start and limit below 0", mill(-1, -1, 1, 1, 0, 0, 1), api.ErrRange},
		{"start far below 0", mill(math.MinInt64, 9, 1, 1, 0, 0, 1), api.ErrRange},
		{"start above the limit", mill(10, 9, 1, 1, 0, 0, 1), api.ErrRange},
		{"start above 40", mill(41, 40, 1, 1, 0, 0, 1), api.ErrRange},
		{"start and limit above 40", mill(41, 41, 1, 1, 0, 0, 1), api.ErrRange},
		{"limit below 0", mill(0, -1, 1, 1, 0, 0, 1), api.ErrRange},
		{"limit above 40", mill(0, 41, 1, 1, 0, 0, 1), api.ErrRange},
		{"limit far above 40", mill(0, math.MaxInt64, 1, 1, 0, 0, 1), api.ErrRange},
		{"gain 0", mill(0, 9, 0, 1, 0, 0, 1), api.ErrRange},
		{"gain below 0", mill(0, 9, math.MinInt64, 1, 0, 0, 1), api.ErrRange},
		{"gain above 40", mill(0, 9, 41, 1, 0, 0, 1), api.ErrRange},
		{"fall 0", mill(0, 9, 1, 0, 0, 0, 1), api.ErrRange},
		{"fall below 0", mill(0, 9, 1, -1, 0, 0, 1), api.ErrRange},
		{"fall above 40", mill(0, 9, 1, 41, 0, 0, 1), api.ErrRange},
		{"fall far above 40", mill(0, 9, 1, math.MaxInt64, 0, 0, 1), api.ErrRange},

		{"pounds 0", mill(0, 9, 1, 1, 0, 0, 1, 0, 0, 0), api.ErrRange},
		{"pounds below 0", mill(0, 9, 1, 1, 0, 0, -1, 0, 0, 1), api.ErrRange},
		{"pounds above 100", mill(0, 9, 1, 1, 0, 0, 1, 0, 0, 101), api.ErrRange},
		{"room below 0", mill(0, 9, 1, 1, 0, 0, 1, -1, 0, 1), api.ErrRange},
		{"room above 40", mill(0, 9, 1, 1, 0, 41, 1, 0, 0, 1), api.ErrRange},
		{"room all above 40", mill(0, 9, 1, 1, 41, 41, 1), api.ErrRange},
		{"room the other way round", mill(0, 9, 1, 1, 0, 0, 1, 2, 1, 1), api.ErrRange},
		{"room the other way round at the limits", mill(0, 9, 1, 1, 40, 0, 1), api.ErrRange},
		{"room far away", mill(0, 9, 1, 1, math.MinInt64, math.MaxInt64, 1), api.ErrRange},

		{"no hour before all others", mill(-1, 50, 0, 0), api.ErrMany},
		{"too many hours before all others", mill(7, 3, 0, 41, slices.Repeat(numbers(2, 1, 0), 13)...), api.ErrMany},
	}
}

// TestCheckMill is P2.1.
func TestCheckMill(t *testing.T) {
	for _, c := range millCases() {
		if err := stone.CheckMill(c.m); err != c.err {
			t.Errorf("%s: %v, not %v", c.name, err, c.err)
		}
	}
}

// TestMillFirst checks that the error of the mill comes before all others, and that nothing is told with it.
func TestMillFirst(t *testing.T) {
	for _, c := range millCases() {
		if c.err == api.OK {
			continue
		}
		check := func(call string, zero bool, err api.Errno) {
			if !zero || err != c.err {
				t.Errorf("%s: %s: %v, not %v, or a result beside it", c.name, call, err, c.err)
			}
		}
		for _, plan := range [][]int{nil, {2}, make([]int, len(c.m.Hours))} {
			heats, err := stone.Heats(c.m, plan, true)
			check("Heats", len(heats) == 0, err)
			heats, err = stone.Heats(c.m, plan, false)
			check("Heats", len(heats) == 0, err)
			n, err := stone.CheckPlan(c.m, plan)
			check("CheckPlan", n == 0, err)
			when, err := stone.Safe(c.m, plan)
			check("Safe", when == 0, err)
			less, warmer, err := stone.Spares(c.m, plan)
			check("Spares", less == 0 && warmer == 0, err)
			heats, err = stone.Latest(c.m, plan)
			check("Latest", len(heats) == 0, err)
		}
		n, err := stone.Most(c.m)
		check("Most", n == 0, err)
		plan, err := stone.Plan(c.m)
		check("Plan", len(plan) == 0, err)
		for _, table := range [][][]int64{nil, {{-1}}, {{0}, {0}}} {
			n, err = stone.CheckTable(c.m, table)
			check("CheckTable", n == 0, err)
		}
		table, err := stone.Table(c.m)
		check("Table", len(table) == 0, err)
		n, err = stone.Worth(c.m)
		check("Worth", n == 0, err)
	}
}

// planCase is a plan and all that is told of it, where errs are the errors of Heats and Safe, and of the others.
type planCase struct {
	m            api.StoneMill
	plan         []int
	warm, cool   []int64
	safe         int
	pounds       int64
	less, warmer int64
	latest       []int64
	errs         [2]api.Errno
}

func planCases() []planCase {
	fine := [2]api.Errno{}
	hot := [2]api.Errno{api.OK, api.ErrStone}
	both := func(err api.Errno) [2]api.Errno { return [2]api.Errno{err, err} }
	return []planCase{
		{millM(20), works(1, 0, 1, 0, 1), numbers(16, 12, 18, 14, 20), numbers(16, 12, 18, 14, 20), 2, 13, 0, 0, numbers(10, 16, 12, 18, 14), fine},
		{millM(20), works(0, 1, 0, 1, 0), numbers(10, 16, 12, 18, 14), numbers(8, 14, 10, 16, 12), 2, 12, 2, 2, numbers(16, 12, 18, 14, 20), fine},
		{millM(20), works(0, 0, 1, 0, 0), numbers(10, 10, 18, 14, 10), numbers(8, 8, 15, 11, 8), 2, 5, 2, 2, numbers(20, 18, 14, 20, 20), fine},
		{millM(20), works(1, 1, 0, 0, 0), numbers(16, 22, 18, 14, 10), numbers(16, 22, 18, 14, 10), 0, 0, 0, 0, nil, hot},
		{millM(17), works(0, 0, 1, 0, 0), numbers(10, 10, 18, 14, 10), numbers(8, 8, 15, 11, 8), 1, 0, 0, 0, nil, hot},
		{millM(15), works(0, 0, 1, 0, 0), numbers(10, 10, 18, 14, 10), numbers(8, 8, 15, 11, 8), 1, 0, 0, 0, nil, hot},
		{millM(14), works(0, 0, 1, 0, 0), numbers(10, 10, 18, 14, 10), numbers(8, 8, 15, 11, 8), 0, 0, 0, 0, nil, hot},

		// Rest too is not safe in a room above the limit.
		{millM(11), works(0, 0, 0, 0, 0), numbers(10, 10, 12, 12, 10), numbers(8, 8, 9, 9, 8), 1, 0, 0, 0, nil, hot},
		{mill(1, 3, 1, 1, 4, 5, 1), works(0), numbers(5), numbers(4), 0, 0, 0, 0, nil, hot},
		{mill(1, 3, 1, 1, 3, 3, 1), works(0), numbers(3), numbers(3), 2, 0, 0, 0, numbers(3), fine},

		// Only the heat at the end of an hour counts: the limit could be less than Start.
		{mill(20, 20, 1, 15, 0, 2, 1), works(0), numbers(5), numbers(5), 2, 0, 15, 18, numbers(20), fine},
		{mill(40, 40, 1, 40, 0, 0, 1), works(0), numbers(0), numbers(0), 2, 0, 40, 40, numbers(40), fine},

		// Grinding goes up from the room, if this is warmer than the stones.
		{mill(0, 9, 4, 1, 3, 5, 7), works(1), numbers(9), numbers(7), 2, 7, 0, 0, numbers(5), fine},
		{mill(5, 9, 4, 1, 3, 5, 7), works(1), numbers(9), numbers(9), 2, 7, 0, 0, numbers(5), fine},
		{mill(6, 9, 4, 1, 3, 5, 7), works(1), numbers(10), numbers(10), 0, 0, 0, 0, nil, hot},

		// Heats above all that a mill can have.
		{mill(40, 40, 40, 40, 0, 40, 1, 0, 0, 1), works(1, 1), numbers(80, 120), numbers(80, 120), 0, 0, 0, 0, nil, hot},

		{millM(20), works(1, 0), nil, nil, 0, 0, 0, 0, nil, both(api.ErrEqual)},
		{millM(20), works(1, 0, 1, 0, 1, 0), nil, nil, 0, 0, 0, 0, nil, both(api.ErrEqual)},
		{millM(20), nil, nil, nil, 0, 0, 0, 0, nil, both(api.ErrEqual)},
		{millM(20), works(), nil, nil, 0, 0, 0, 0, nil, both(api.ErrEqual)},
		{millM(20), works(1, 0, 1, 0, 2), nil, nil, 0, 0, 0, 0, nil, both(api.ErrRange)},
		{millM(20), works(-1, 0, 0, 0, 0), nil, nil, 0, 0, 0, 0, nil, both(api.ErrRange)},
		{millM(20), works(0, 0, math.MaxInt, 0, 0), nil, nil, 0, 0, 0, 0, nil, both(api.ErrRange)},
		{millM(20), works(0, 0, math.MinInt, 0, 0), nil, nil, 0, 0, 0, 0, nil, both(api.ErrRange)},

		// Several errors at once.
		{millM(20), works(2, 2), nil, nil, 0, 0, 0, 0, nil, both(api.ErrEqual)},
		{millM(20), works(1, 1, 1, 1, 1, 3), nil, nil, 0, 0, 0, 0, nil, both(api.ErrEqual)},
		{millM(20), works(1, 1, 1, 1, 3), nil, nil, 0, 0, 0, 0, nil, both(api.ErrRange)},
	}
}

// TestPlans is P2.2 and P2.5.
func TestPlans(t *testing.T) {
	for i, c := range planCases() {
		if got, err := stone.Heats(c.m, c.plan, true); !slices.Equal(got, c.warm) || err != c.errs[0] {
			t.Error(i, "warm", got, err)
		}
		if got, err := stone.Heats(c.m, c.plan, false); !slices.Equal(got, c.cool) || err != c.errs[0] {
			t.Error(i, "cool", got, err)
		}
		if got, err := stone.Safe(c.m, c.plan); got != c.safe || err != c.errs[0] {
			t.Error(i, "safe", got, err)
		}
		if got, err := stone.CheckPlan(c.m, c.plan); got != c.pounds || err != c.errs[1] {
			t.Error(i, "check", got, err)
		}
		if less, warmer, err := stone.Spares(c.m, c.plan); less != c.less || warmer != c.warmer || err != c.errs[1] {
			t.Error(i, "spares", less, warmer, err)
		}
		if got, err := stone.Latest(c.m, c.plan); !slices.Equal(got, c.latest) || err != c.errs[1] {
			t.Error(i, "latest", got, err)
		}
	}
}

// TestBest is P2.3 and P2.6, and that Table proves Most (P2.4).
func TestBest(t *testing.T) {
	for i, c := range []struct {
		m     api.StoneMill
		most  int64
		plan  []int
		worth int64
		err   api.Errno
	}{
		{millM(20), 13, works(1, 0, 1, 0, 1), 0, api.OK},
		{millM(21), 13, works(1, 0, 1, 0, 1), 1, api.OK},
		{millM(22), 14, works(1, 1, 0, 0, 1), 0, api.OK},
		{millM(12), 0, works(0, 0, 0, 0, 0), 0, api.OK},
		{millM(11), 0, nil, 0, api.ErrPlan},

		// A room above the limit, in the first hour, in the last one, and just not.
		{mill(0, 5, 1, 1, 0, 6, 1, 0, 0, 9), 0, nil, 0, api.ErrPlan},
		{mill(0, 5, 1, 1, 0, 0, 1, 0, 6, 9), 0, nil, 0, api.ErrPlan},
		{mill(0, 5, 1, 1, 0, 0, 1, 0, 5, 9), 1, works(1, 0), 9, api.OK},
		{mill(0, 39, 1, 1, 0, 40, 1), 0, nil, 0, api.ErrPlan},

		// Of several plans the first one: rest comes before grinding.
		{mill(0, 1, 1, 1, 0, 0, 5, 0, 0, 5), 5, works(0, 1), 5, api.OK},
		{mill(0, 1, 1, 1, 0, 0, 5, 0, 0, 4), 5, works(1, 0), 4, api.OK},
		{mill(0, 1, 1, 1, 0, 0, 1, 0, 0, 1, 0, 0, 1, 0, 0, 1), 2, works(0, 1, 0, 1), 1, api.OK},
		{mill(0, 2, 2, 1, 0, 0, 3, 0, 0, 4, 0, 0, 7, 0, 0, 6), 9, works(1, 0, 0, 1), 1, api.OK},
		{mill(0, 3, 2, 1, 0, 0, 3, 0, 0, 4, 0, 0, 7, 0, 0, 6), 10, works(0, 1, 0, 1), 3, api.OK},

		// A limit that is greater by 1 than it can be.
		{mill(1, 40, 40, 1, 1, 1, 7), 0, works(0), 7, api.OK},
		{mill(2, 40, 40, 1, 1, 1, 7), 0, works(0), 0, api.OK},
		{mill(40, 40, 1, 1, 0, 0, 100), 0, works(0), 100, api.OK},
		{mill(40, 40, 1, 1, 0, 40, 100, 0, 40, 99), 0, works(0, 0), 100, api.OK},

		{long(12), 12, slices.Repeat(works(1), 12), 0, api.OK},
		{mill(0, 40, 1, 1, slices.Repeat(numbers(0, 9, 100), 12)...), 1200, slices.Repeat(works(1), 12), 0, api.OK},
	} {
		if got, err := stone.Most(c.m); got != c.most || err != c.err {
			t.Error(i, "most", got, err)
		}
		if got, err := stone.Plan(c.m); !slices.Equal(got, c.plan) || err != c.err {
			t.Error(i, "plan", got, err)
		}
		if got, err := stone.Worth(c.m); got != c.worth || err != c.err {
			t.Error(i, "worth", got, err)
		}
		table, err := stone.Table(c.m)
		if err != c.err || err != api.OK && len(table) > 0 {
			t.Error(i, "table", table, err)
		}
		if got, bad := stone.CheckTable(c.m, table); err == api.OK && (got != c.most || bad != api.OK) {
			t.Error(i, "table", table, got, bad)
		}
	}
}

// TestCheckTable is P2.4.
func TestCheckTable(t *testing.T) {
	// Heats 0 to 2: an hour of grinding is 1 warmer, and 3 pounds, then 4; the heat 2 can only rest.
	two := mill(1, 2, 1, 1, 0, 0, 3, 0, 0, 4)
	row := numbers
	for i, c := range []struct {
		m     api.StoneMill
		table [][]int64
		n     int64
		err   api.Errno
	}{
		{two, [][]int64{row(7, 4, 4), row(4, 4, 0), row(0, 0, 0)}, 4, api.OK},
		{two, [][]int64{row(7, 1200, 4), row(4, 4, 0), row(0, 0, 0)}, 1200, api.OK},
		{two, [][]int64{row(8, 5, 5), row(5, 5, 1), row(1, 1, 1)}, 5, api.OK},
		{two, [][]int64{row(7, 5, 4), row(4, 4, 1), row(0, 0, 0)}, 5, api.OK},

		// One too little: for rest, for grinding, in the last hour, and for a heat that is not reached.
		{two, [][]int64{row(7, 3, 4), row(4, 4, 0), row(0, 0, 0)}, 0, api.ErrSum},
		{two, [][]int64{row(6, 4, 4), row(4, 4, 0), row(0, 0, 0)}, 0, api.ErrSum},
		{two, [][]int64{row(7, 4, 4), row(4, 3, 0), row(0, 0, 0)}, 0, api.ErrSum},
		{two, [][]int64{row(7, 4, 4), row(3, 4, 0), row(0, 0, 0)}, 0, api.ErrSum},
		{two, [][]int64{row(7, 4, 3), row(4, 4, 0), row(0, 0, 0)}, 0, api.ErrSum},
		{two, [][]int64{row(7, 4, 4), row(4, 4, 0), row(0, 1, 0)}, 0, api.ErrSum},
		{two, [][]int64{row(7, 4, 4), row(4, 4, 0), row(0, 0, 1)}, 0, api.ErrSum},

		{two, [][]int64{row(7, 4, 4), row(4, 4, 0), row(0, 0, -1)}, 0, api.ErrRange},
		{two, [][]int64{row(1201, 4, 4), row(4, 4, 0), row(0, 0, 0)}, 0, api.ErrRange},
		{two, [][]int64{row(7, 4, 4), row(4, math.MaxInt64, 0), row(0, 0, 0)}, 0, api.ErrRange},
		{two, [][]int64{row(7, 4, 4), row(4, 4, math.MinInt64), row(0, 0, 0)}, 0, api.ErrRange},

		{two, nil, 0, api.ErrEqual},
		{two, [][]int64{}, 0, api.ErrEqual},
		{two, [][]int64{row(7, 4, 4), row(4, 4, 0)}, 0, api.ErrEqual},
		{two, [][]int64{row(7, 4, 4), row(4, 4, 0), row(0, 0, 0), row(0, 0, 0)}, 0, api.ErrEqual},
		{two, [][]int64{row(7, 4), row(4, 4, 0), row(0, 0, 0)}, 0, api.ErrEqual},
		{two, [][]int64{row(7, 4, 4), row(4, 4, 0), row(0, 0, 0, 0)}, 0, api.ErrEqual},
		{two, [][]int64{nil, row(4, 4, 0), row(0, 0, 0)}, 0, api.ErrEqual},

		// Several errors at once.
		{two, [][]int64{row(-1, 4, 4), row(4, 4), row(0, 0, 0)}, 0, api.ErrEqual},
		{two, [][]int64{row(1201, 4, 4), row(4, 4, 0)}, 0, api.ErrEqual},
		{two, [][]int64{row(0, 0, 0), row(4, 4, 0), row(0, 0, 1201)}, 0, api.ErrRange},

		// In a room above the limit nothing has to be had.
		{mill(0, 1, 1, 1, 0, 2, 9), [][]int64{row(0, 0), row(0, 0)}, 0, api.OK},
		{mill(0, 1, 1, 1, 0, 2, 9), [][]int64{row(7, 0), row(8, 8)}, 7, api.OK},
		{mill(0, 1, 1, 1, 0, 1, 9), [][]int64{row(7, 7), row(8, 8)}, 0, api.ErrSum},

		{mill(0, 0, 1, 1, 0, 0, 9), [][]int64{row(0), row(0)}, 0, api.OK},
		{mill(0, 0, 1, 1, 0, 0, 9), [][]int64{row(0), row(1)}, 0, api.ErrSum},
	} {
		if n, err := stone.CheckTable(c.m, c.table); n != c.n || err != c.err {
			t.Error(i, n, err)
		}
		if n, err := checkTable(c.m, c.table); n != c.n || err != c.err {
			t.Error(i, "the slow program", n, err)
		}
	}
}
