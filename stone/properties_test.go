package stone_test

import (
	"reflect"
	"slices"
	"testing"

	"senvy/api"
	"senvy/dice"
	"senvy/stone"
)

// TestTried compares all that is told of mills with what trying all plans finds (P2.2, P2.3, P2.5, P2.6).
func TestTried(t *testing.T) {
	ties := 0
	for _, m := range mills(t, 1, 1200, 7) {
		plan, n, ok := tryPlans(m)
		want := api.OK
		if !ok {
			want = api.ErrPlan
		}
		if got, err := stone.Plan(m); !slices.Equal(got, plan) || err != want {
			t.Fatal(m, got, err, plan)
		}
		if got, err := stone.Most(m); got != n || err != want {
			t.Fatal(m, got, err, n)
		}
		more := clone(m)
		more.Limit++
		if _, then, _ := tryPlans(more); ok {
			n = then - n
		}
		if got, err := stone.Worth(m); got != n || err != want {
			t.Fatal(m, got, err, n)
		}
		everyPlan(len(m.Hours), func(p []int) {
			if ok && isAlwaysSafe(m, p) && !slices.Equal(p, plan) && grinding(m, p) == grinding(m, plan) {
				ties++
			}
			comparePlan(t, m, p)
		})
	}
	if ties == 0 {
		t.Error("there was no mill of which several plans grind the most")
	}
}

// comparePlan compares all that is told of a plan with what follows from the definitions.
func comparePlan(t *testing.T, m api.StoneMill, plan []int) {
	t.Helper()
	if got := heatsOf(t, m, plan, true); !slices.Equal(got, simulate(m, plan, warmRoom(m), 0, m.Start)) {
		t.Fatal(m, plan, got)
	}
	if got := heatsOf(t, m, plan, false); !slices.Equal(got, simulate(m, plan, coolRoom(m), 0, m.Start)) {
		t.Fatal(m, plan, got)
	}
	pounds, err := stone.CheckPlan(m, plan)
	less, warmer, bad := stone.Spares(m, plan)
	latest, worse := stone.Latest(m, plan)
	if !isAlwaysSafe(m, plan) {
		if pounds != 0 || less != 0 || warmer != 0 || len(latest) > 0 || err != api.ErrStone || bad != err || worse != err {
			t.Fatal(m, plan, pounds, less, warmer, latest, err, bad, worse)
		}
		return
	}
	wantLess, wantWarmer := trySpares(m, plan)
	if pounds != grinding(m, plan) || less != wantLess || warmer != wantWarmer || !slices.Equal(latest, tryLatest(m, plan)) {
		t.Fatal(m, plan, pounds, less, warmer, latest)
	}
	if err != api.OK || bad != api.OK || worse != api.OK {
		t.Fatal(m, plan, err, bad, worse)
	}
}

// TestLong tries all plans of mills up to the limits of the chapter.
func TestLong(t *testing.T) {
	for _, m := range mills(t, 2, 60, 12) {
		m = clone(m)
		for len(m.Hours) < api.MaxStoneHours {
			m.Hours = append(m.Hours, m.Hours[0])
		}
		plan, n, ok := tryPlans(m)
		got, err := stone.Plan(m)
		if most, found := most(t, m); most != n || found != ok || !slices.Equal(got, plan) || (err == api.OK) != ok {
			t.Fatal(m, got, err, plan)
		}
	}
}

// TestSafe compares Safe with what trying all rooms finds (P2.2, P2.9).
func TestSafe(t *testing.T) {
	d := dice.Dice(3)
	counts := map[int]int{}
	for _, m := range mills(t, 4, 400, 4) {
		for range 4 {
			plan := planThrown(&d, m)
			safe, all := 0, 0
			low, high := heatsOf(t, m, plan, false), heatsOf(t, m, plan, true)
			everyRoom(m, func(room []int64) {
				all++
				if isSafe(m, plan, room, m.Limit) {
					safe++
				}
				heats := heatsOf(t, inRoom(m, room), plan, true)
				if !noneGreater(low, heats) || !noneGreater(heats, high) || !slices.Equal(heats, simulate(m, plan, room, 0, m.Start)) {
					t.Fatal(m, plan, room, heats)
				}
			})
			want := api.StoneMay
			if safe == all {
				want = api.StoneAlways
			} else if safe == 0 {
				want = api.StoneNever
			}
			if got, err := stone.Safe(m, plan); got != want || err != api.OK {
				t.Fatal(m, plan, got, err, want)
			}
			counts[want]++
		}
	}
	if len(counts) < 3 || counts[api.StoneMay] < 20 {
		t.Error(counts)
	}
}

// TestTables compares CheckTable with its definition, for tables that are right, and that are not (P2.4).
func TestTables(t *testing.T) {
	d := dice.Dice(5)
	counts := map[api.Errno]int{}
	for _, m := range mills(t, 6, 500, 12) {
		table, err := stone.Table(m)
		n, ok := most(t, m)
		if !ok {
			if err != api.ErrPlan || len(table) > 0 {
				t.Fatal(m, table, err)
			}
			continue
		}
		if got, bad := checkTable(m, table); got != n || bad != api.OK || err != api.OK {
			t.Fatal(m, table, got, bad, err)
		}
		for range 12 {
			changed := cloneTable(table)
			for range 1 + d.Below(2) {
				row := changed[d.Below(len(changed))]
				row[d.Below(len(row))] += d.From(-1, 2)
			}
			want, bad := checkTable(m, changed)
			if got, err := stone.CheckTable(m, changed); got != want || err != bad {
				t.Fatal(m, changed, got, err, want, bad)
			}
			counts[bad]++
		}
	}
	if counts[api.OK] < 100 || counts[api.ErrSum] < 100 {
		t.Error(counts)
	}
}

// slackTable throws a right table, some of whose numbers are greater than they need to be.
func slackTable(d *dice.Dice, m api.StoneMill) [][]int64 {
	table := make([][]int64, len(m.Hours)+1)
	for hour := len(m.Hours); hour >= 0; hour-- {
		for heat := range m.Limit + 1 {
			n := int64(max(d.Below(4)-2, 0))
			if hour < len(m.Hours) {
				n += needs(m, table, hour, heat)
			}
			table[hour] = append(table[hour], min(n, api.MaxStoneAll))
		}
	}
	return table
}

// TestProved is P2.7.
func TestProved(t *testing.T) {
	d := dice.Dice(7)
	checked, greater := 0, 0
	for _, m := range mills(t, 8, 300, 8) {
		proved, err := stone.CheckTable(m, slackTable(&d, m))
		n, ok := most(t, m)
		if err != api.OK || proved < n {
			t.Fatal(m, proved, n, err)
		}
		if proved > n {
			greater++
		}
		everyPlan(len(m.Hours), func(plan []int) {
			pounds, err := stone.CheckPlan(m, plan)
			if err != api.OK {
				return
			}
			if checked++; !ok || pounds > n || pounds > proved {
				t.Fatal(m, plan, pounds, n, proved)
			}
		})
	}
	if checked == 0 || greater == 0 {
		t.Error(checked, greater)
	}
}

// TestRest is P2.8.
func TestRest(t *testing.T) {
	d := dice.Dice(9)
	for _, m := range mills(t, 10, 400, 7) {
		_, err := stone.CheckPlan(m, make([]int, len(m.Hours)))
		if _, ok := most(t, m); ok != (err == api.OK) || ok != canRest(m) {
			t.Fatal(m, ok, err)
		}
		known := inRoom(m, roomThrown(&d, m))
		plan := planThrown(&d, m)
		heats := heatsOf(t, known, plan, true)
		when, _ := stone.Safe(known, plan)
		for hour, work := range plan {
			if work == 0 {
				continue
			}
			idle := slices.Clone(plan)
			idle[hour] = 0
			if less := heatsOf(t, known, idle, true); !noneGreater(less, heats) {
				t.Fatal(known, plan, hour, less, heats)
			}
			if then, _ := stone.Safe(known, idle); when == api.StoneAlways && then != when {
				t.Fatal(known, plan, hour, then)
			}
		}
	}
}

// TestRooms is P2.9.
func TestRooms(t *testing.T) {
	d := dice.Dice(11)
	safe := 0
	for _, m := range mills(t, 12, 400, 12) {
		plan := planThrown(&d, m)
		low, high := heatsOf(t, m, plan, false), heatsOf(t, m, plan, true)
		for range 8 {
			known := inRoom(m, roomThrown(&d, m))
			heats := heatsOf(t, known, plan, true)
			if !noneGreater(low, heats) || !noneGreater(heats, high) || !slices.Equal(heats, heatsOf(t, known, plan, false)) {
				t.Fatal(m, known, plan, low, heats, high)
			}
		}
		cooler := clone(m)
		for i := range cooler.Hours {
			hi := d.From(0, m.Hours[i].Room.Hi)
			cooler.Hours[i].Room = to(d.From(0, hi), hi)
		}
		if _, err := stone.CheckPlan(m, plan); err == api.OK {
			safe++
			if when, err := stone.Safe(cooler, plan); when != api.StoneAlways || err != api.OK {
				t.Fatal(m, cooler, plan, when, err)
			}
		}
	}
	if safe < 50 {
		t.Error(safe)
	}
}

// easier returns mills that can grind no less than a mill: a greater Limit or Fall, or a lesser Start or Gain.
func easier(m api.StoneMill) []api.StoneMill {
	limit, start, gain, fall := m, m, m, m
	limit.Limit++
	start.Start--
	gain.Gain--
	fall.Fall++
	return slices.DeleteFunc([]api.StoneMill{limit, start, gain, fall}, func(e api.StoneMill) bool { return stone.CheckMill(e) != api.OK })
}

// TestLimits is P2.10.
func TestLimits(t *testing.T) {
	more := 0
	for _, m := range mills(t, 13, 600, 12) {
		n, ok := most(t, m)
		if !ok {
			continue
		}
		for _, e := range easier(m) {
			then, found := most(t, e)
			if !found || then < n {
				t.Fatal(m, e, n, then)
			}
			if then > n {
				more++
			}
		}
		worth, err := stone.Worth(m)
		if err != api.OK || worth < 0 {
			t.Fatal(m, worth, err)
		}
		if above := m; above.Limit < api.MaxStoneHeat {
			above.Limit++
			if then, _ := most(t, above); then != n+worth {
				t.Fatal(m, n, worth, then)
			}
		}
	}
	if more < 100 {
		t.Error(more)
	}
}

// TestSpared is P2.11.
func TestSpared(t *testing.T) {
	d := dice.Dice(14)
	compared := 0
	safe := func(m api.StoneMill, plan []int) (bool, bool) {
		when, err := stone.Safe(m, plan)
		return when == api.StoneAlways, err == api.OK
	}
	for _, m := range mills(t, 15, 900, 10) {
		plan := planThrown(&d, m)
		less, warmer, err := stone.Spares(m, plan)
		if err != api.OK {
			continue
		}
		for beyond := range int64(2) {
			low, warm := clone(m), clone(m)
			low.Limit -= less + beyond
			for i := range warm.Hours {
				warm.Hours[i].Room.Hi += warmer + beyond
			}
			// What is spared can be more than a mill can be given: then nothing is told of it.
			for _, other := range []api.StoneMill{low, warm} {
				if ok, valid := safe(other, plan); valid {
					compared++
					if ok != (beyond == 0) {
						t.Fatal(m, other, plan, less, warmer, ok)
					}
				}
			}
		}
	}
	if compared < 500 {
		t.Error(compared)
	}
}

// TestLatest is P2.12.
func TestLatest(t *testing.T) {
	compared := 0
	for _, m := range mills(t, 16, 300, 12) {
		plan, err := stone.Plan(m)
		if err != api.OK {
			continue
		}
		latest, err := stone.Latest(m, plan)
		if err != api.OK || len(latest) != len(plan) {
			t.Fatal(m, plan, latest, err)
		}
		for hour := range plan {
			rest := m
			rest.Hours = m.Hours[hour:]
			for rest.Start = range m.Limit + 1 {
				compared++
				if _, err := stone.CheckPlan(rest, plan[hour:]); (err == api.OK) != (rest.Start <= latest[hour]) {
					t.Fatal(m, plan, latest, hour, rest.Start, err)
				}
			}
		}
	}
	if compared == 0 {
		t.Error("there was no plan")
	}
}

// TestHours is P2.13.
func TestHours(t *testing.T) {
	for _, m := range mills(t, 17, 600, 12) {
		n, ok := most(t, m)
		if !ok {
			continue
		}
		if last := len(m.Hours) - 1; last > 0 {
			shorter := m
			shorter.Hours = m.Hours[:last]
			if less, found := most(t, shorter); !found || less > n || less < n-m.Hours[last].Pounds {
				t.Fatal(m, n, less)
			}
		}
		plan, _ := stone.Plan(m)
		for times := range int64(5) {
			heavy := clone(m)
			for i := range heavy.Hours {
				heavy.Hours[i].Pounds *= times
			}
			if stone.CheckMill(heavy) != api.OK {
				continue
			}
			again, err := stone.Plan(heavy)
			if then, _ := most(t, heavy); then != n*times || !slices.Equal(plan, again) || err != api.OK {
				t.Fatal(m, times, n, then, plan, again)
			}
		}
	}
}

// told returns all that is told of a mill and a plan, with heats as much less.
func told(m api.StoneMill, plan []int, by int64) []any {
	lower := func(heats []int64, err api.Errno) []any {
		out := slices.Clone(heats)
		for i := range out {
			out[i] -= by
		}
		return []any{out, err}
	}
	all := func(results ...any) []any { return results }
	pounds, err := stone.CheckPlan(m, plan)
	when, bad := stone.Safe(m, plan)
	less, warmer, worse := stone.Spares(m, plan)
	out := all(pounds, err, when, bad, less, warmer, worse)
	out = append(out, lower(stone.Heats(m, plan, true))...)
	out = append(out, lower(stone.Heats(m, plan, false))...)
	out = append(out, lower(stone.Latest(m, plan))...)
	most, err := stone.Most(m)
	best, bad := stone.Plan(m)
	worth, worse := stone.Worth(m)
	return append(out, most, err, best, bad, worth, worse)
}

// TestMoved is P2.14.
func TestMoved(t *testing.T) {
	d := dice.Dice(18)
	compared := 0
	for _, m := range mills(t, 19, 500, 12) {
		plan := planThrown(&d, m)
		moved, by := clone(m), d.From(1, 20)
		moved.Start += by
		moved.Limit += by
		for i := range moved.Hours {
			moved.Hours[i].Room.Lo += by
			moved.Hours[i].Room.Hi += by
		}
		if stone.CheckMill(moved) != api.OK {
			continue
		}
		compared++
		one, two := told(m, plan, 0), told(moved, plan, by)
		// What is spared of the limit is the same too, as heats and limit move together.
		if !reflect.DeepEqual(one, two) {
			t.Fatal(m, by, plan, one, two)
		}
	}
	if compared < 100 {
		t.Error(compared)
	}
}
