package stone_test

import (
	"fmt"
	"math"
	"reflect"
	"slices"
	"sync"
	"testing"

	"senvy/api"
	"senvy/dice"
	"senvy/stone"
)

// tell returns all that the package tells of a mill, by all its functions.
func tell(m api.StoneMill, plan []int, table [][]int64) string {
	var out []any
	add := func(results ...any) { out = append(out, results...) }
	add(stone.CheckMill(m))
	for _, warm := range []bool{true, false} {
		heats, err := stone.Heats(m, plan, warm)
		add(heats, err)
	}
	n, err := stone.CheckPlan(m, plan)
	add(n, err)
	when, err := stone.Safe(m, plan)
	add(when, err)
	n, err = stone.Most(m)
	add(n, err)
	best, err := stone.Plan(m)
	add(best, err)
	n, err = stone.CheckTable(m, table)
	add(n, err)
	proof, err := stone.Table(m)
	add(proof, err)
	less, warmer, err := stone.Spares(m, plan)
	add(less, warmer, err)
	heats, err := stone.Latest(m, plan)
	add(heats, err)
	n, err = stone.Worth(m)
	add(n, err)
	return fmt.Sprint(out...)
}

// TestAnyArguments is P1: no arguments make a function panic or run without end.
func TestAnyArguments(t *testing.T) {
	d := dice.Dice(20)
	ends := numbers(math.MinInt64, math.MinInt64+1, -1, 0, 1, 2, 3, 39, 40, 41, 100, 101, 1200, 1201, math.MaxInt64-1, math.MaxInt64)
	wild := func() int64 { return ends[d.Below(len(ends))] }
	mild := func() int64 {
		if d.Below(20) > 0 {
			return d.From(1, 3)
		}
		return wild()
	}
	valid := 0
	for range 5000 {
		m := mill(mild(), mild()+d.From(0, 2), mild(), mild())
		for range d.Below(14) {
			room := mild()
			m.Hours = append(m.Hours, api.StoneHour{Room: to(room, max(room, mild())), Pounds: mild()})
		}
		var plan []int
		for range len(m.Hours) + max(0, d.Below(5)-3) {
			plan = append(plan, int(max(0, mild()-2)))
		}
		var table [][]int64
		for range len(m.Hours) + max(1, d.Below(5)-2) {
			row := slices.Repeat(numbers(mild()), int(max(0, min(m.Limit, 40)))+max(1, d.Below(5)-2))
			table = append(table, row)
		}
		if stone.CheckMill(m) == api.OK {
			valid++
		}
		if first, again := tell(m, plan, table), tell(clone(m), slices.Clone(plan), cloneTable(table)); first != again {
			t.Fatal(m, plan, table, first, again)
		}
	}
	if valid < 500 {
		t.Error(valid)
	}
}

// TestSameResults is P2: equal arguments give equal results, each time and side by side.
func TestSameResults(t *testing.T) {
	d := dice.Dice(21)
	for _, m := range append(mills(t, 22, 60, 12), millM(20), millM(11)) {
		plan := planThrown(&d, m)
		table := slackTable(&d, m)
		first := tell(m, plan, table)
		results := make([]string, 8)
		var group sync.WaitGroup
		for i := range results {
			group.Go(func() { results[i] = tell(m, plan, table) })
		}
		group.Wait()
		for _, again := range results {
			if again != first {
				t.Fatal(m, first, again)
			}
		}
	}
}

// roomy returns a list that has room behind its end.
func roomy[T any](list []T, mark T) []T {
	return append(slices.Clone(list), mark, mark)[:len(list)]
}

// TestArgumentsStay is R4: no argument is changed, nor the memory behind the end of one.
func TestArgumentsStay(t *testing.T) {
	d := dice.Dice(23)
	for _, m := range append(mills(t, 24, 60, 10), millM(20), millM(11)) {
		plan := roomy(planThrown(&d, m), -7)
		table := roomy(slackTable(&d, m), numbers(-7))
		for i, row := range table {
			table[i] = roomy(row, -7)
		}
		given := m
		given.Hours = roomy(m.Hours, api.StoneHour{Pounds: -7})
		look := func() []any {
			rows := cloneTable(table[:cap(table)])
			for i, row := range table {
				rows[i] = slices.Clone(row[:cap(row)])
			}
			return []any{slices.Clone(given.Hours[:cap(given.Hours)]), slices.Clone(plan[:cap(plan)]), rows}
		}
		before := look()
		tell(given, plan, table)
		if !reflect.DeepEqual(before, look()) {
			t.Fatal(m, plan, table)
		}
	}
}

// spoil overwrites all memory of a list.
func spoil[T any](list []T, mark T) {
	for i := range list[:cap(list)] {
		list[:cap(list)][i] = mark
	}
}

// TestResultsAreNew is R4: what is done to a result changes neither an argument nor another result.
func TestResultsAreNew(t *testing.T) {
	for _, m := range append(mills(t, 25, 60, 10), millM(20)) {
		plan := make([]int, len(m.Hours))
		given, first := clone(m), tell(m, plan, nil)
		for range 2 {
			warm, _ := stone.Heats(given, plan, true)
			spoil(warm, -99)
			latest, _ := stone.Latest(given, plan)
			spoil(latest, -99)
			best, _ := stone.Plan(given)
			spoil(best, -99)
			table, _ := stone.Table(given)
			for i, row := range table {
				others := cloneTable(table)
				others[i] = slices.Repeat(numbers(-99), len(row))
				spoil(row, -99)
				if !reflect.DeepEqual(others, cloneTable(table)) {
					t.Fatal(m, "rows share memory")
				}
			}
			spoil(table, nil)
		}
		if again := tell(given, plan, nil); again != first || !reflect.DeepEqual(given, m) || slices.Max(plan) != 0 || slices.Min(plan) != 0 {
			t.Fatal(m, first, again)
		}
	}
}

// TestNilAndEmpty is R3: a nil list and an empty one are the same.
func TestNilAndEmpty(t *testing.T) {
	none, empty := millM(20), millM(20)
	none.Hours, empty.Hours = nil, []api.StoneHour{}
	if one, two := tell(none, nil, nil), tell(empty, []int{}, [][]int64{}); one != two {
		t.Error(one, two)
	}
	if one, two := tell(millM(20), nil, nil), tell(millM(20), []int{}, [][]int64{}); one != two {
		t.Error(one, two)
	}
	if one, two := tell(long(1), nil, [][]int64{nil, nil}), tell(long(1), []int{}, [][]int64{{}, {}}); one != two {
		t.Error(one, two)
	}
}
