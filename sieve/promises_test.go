package sieve_test

import (
	"fmt"
	"math"
	"reflect"
	"slices"
	"sync"
	"testing"

	"senvy/api"
	"senvy/dice"
	"senvy/sieve"
)

// arguments is what all functions of the package take together.
type arguments struct {
	t           api.SieveTable
	n           [][]int64
	p           api.SieveProof
	row, column int
	many        int64
}

// tell returns all that the package tells, by all its functions.
func tell(a arguments) string {
	var out []any
	add := func(results ...any) { out = append(out, results...) }
	add(sieve.CheckTable(a.t))
	add(sieve.CheckTruth(a.t, a.n))
	truth, err := sieve.Truth(a.t)
	add(truth, err)
	short, err := sieve.CheckProof(a.t, a.p)
	add(short, err)
	p, err := sieve.Proof(a.t)
	add(p, err)
	r, err := sieve.Cell(a.t, a.row, a.column)
	add(r, err)
	r, err = sieve.Row(a.t, a.row)
	add(r, err)
	r, err = sieve.All(a.t)
	add(r, err)
	narrow, err := sieve.Narrow(a.t)
	add(narrow, err)
	when, err := sieve.More(a.t, a.many)
	add(when, err)
	return fmt.Sprint(out...)
}

// copied returns arguments that share no memory with others.
func (a arguments) copied() arguments {
	a.t, a.n = clone(a.t), cloneLists(a.n)
	a.p.Rows, a.p.Columns = slices.Clone(a.p.Rows), slices.Clone(a.p.Columns)
	return a
}

// argumentsOf throws arguments that go with a table: mostly such as are valid.
func argumentsOf(d *dice.Dice, t api.SieveTable) arguments {
	a := arguments{t: t, row: d.Below(len(t.Rows)), column: d.Below(len(t.Columns)), many: d.From(0, 20)}
	for _, cells := range t.Cells {
		var list []int64
		for _, r := range cells {
			list = append(list, d.From(r.Lo, r.Hi))
		}
		a.n = append(a.n, list)
	}
	rows, columns := subsets(len(t.Rows)), subsets(len(t.Columns))
	a.p = proof(rows[d.Below(len(rows))], columns[d.Below(len(columns))], d.Below(2))
	return a
}

// samples returns arguments with tables of all sorts.
func samples(t *testing.T, seed dice.Dice, n int) []arguments {
	t.Helper()
	var out []arguments
	for _, one := range append(larges(t, seed, n), tableT(), tableU(), even(4, 4, to(0, 12), to(0, 48)), even(4, 4, just(12), just(47))) {
		out = append(out, argumentsOf(&seed, one))
	}
	return out
}

// TestAnyArguments is P1: no arguments make a function panic or run without end.
func TestAnyArguments(t *testing.T) {
	d := dice.Dice(20)
	far := numbers(math.MinInt64, math.MinInt64+1, -49, -1, 0, 1, 2, 4, 5, 12, 13, 48, 49, 1000, math.MaxInt64-1, math.MaxInt64)
	wild := func() int64 { return far[d.Below(len(far))] }
	mild := func() int64 {
		if d.Below(40) > 0 {
			return d.From(0, 3)
		}
		return wild()
	}
	count := func(n int) int { return max(0, n+max(0, d.Below(30)-28)-max(0, d.Below(30)-28)) }
	some := func(n int) []api.Range {
		var out []api.Range
		for range count(n) {
			lo := mild()
			out = append(out, to(lo, max(lo, mild())))
		}
		return out
	}
	list := func(n int) []int64 {
		var out []int64
		for range count(n) {
			out = append(out, mild())
		}
		return out
	}
	wholes := func(n int) []int {
		var out []int
		for _, i := range list(d.Below(n + 1)) {
			out = append(out, int(i))
		}
		return out
	}
	valid := 0
	for range 8000 {
		rows, columns := 1+d.Below(4), 1+d.Below(4)
		a := arguments{t: table(some(rows), some(columns)), row: int(mild()), column: int(mild()), many: mild()}
		for range count(rows) {
			a.t.Cells = append(a.t.Cells, some(columns))
		}
		for range count(rows) {
			a.n = append(a.n, list(columns))
		}
		a.p = proof(wholes(rows), wholes(columns), int(mild()))
		if sieve.CheckTable(a.t) == api.OK {
			valid++
		}
		if first, again := tell(a), tell(a.copied()); first != again {
			t.Fatal(a, first, again)
		}
	}
	if valid < 800 || valid > 7200 {
		t.Error(valid)
	}
}

// TestSameResults is P2: equal arguments give equal results, each time and side by side.
func TestSameResults(t *testing.T) {
	for _, a := range samples(t, 21, 100) {
		first := tell(a)
		results := make([]string, 8)
		var group sync.WaitGroup
		for i := range results {
			group.Go(func() { results[i] = tell(a) })
		}
		group.Wait()
		for _, again := range results {
			if again != first {
				t.Fatal(a, first, again)
			}
		}
	}
}

// roomy returns a list that has room behind its end.
func roomy[T any](list []T, mark T) []T {
	return append(slices.Clone(list), mark, mark)[:len(list)]
}

// look returns a copy of all memory of a list.
func look[T any](list []T) []T { return slices.Clone(list[:cap(list)]) }

// looks returns a copy of all memory of a list of lists.
func looks[T any](l [][]T) [][]T {
	out := look(l)
	for i, list := range out {
		out[i] = look(list)
	}
	return out
}

// TestArgumentsStay is R4: no argument is changed, nor the memory behind the end of one.
func TestArgumentsStay(t *testing.T) {
	for _, a := range samples(t, 22, 100) {
		a.t.Rows, a.t.Columns = roomy(a.t.Rows, just(-7)), roomy(a.t.Columns, just(-7))
		a.t.Cells = roomy(a.t.Cells, ranges(-7, -7))
		for row, cells := range a.t.Cells {
			a.t.Cells[row] = roomy(cells, just(-7))
		}
		a.n = roomy(a.n, numbers(-7))
		for row, list := range a.n {
			a.n[row] = roomy(list, -7)
		}
		a.p.Rows, a.p.Columns = roomy(a.p.Rows, -7), roomy(a.p.Columns, -7)
		all := func() []any {
			return []any{look(a.t.Rows), look(a.t.Columns), looks(a.t.Cells), looks(a.n), look(a.p.Rows), look(a.p.Columns)}
		}
		before := all()
		tell(a)
		if !reflect.DeepEqual(before, all()) {
			t.Fatal(a)
		}
	}
}

// spoil overwrites all memory of a list.
func spoil[T any](list []T, mark T) {
	for i := range list[:cap(list)] {
		list[:cap(list)][i] = mark
	}
}

// spoilOne overwrites each of some lists, and checks that the others stay.
func spoilOne[T comparable](t *testing.T, l [][]T, mark T) {
	t.Helper()
	for i, list := range l {
		others := cloneLists(l)
		others[i] = slices.Repeat([]T{mark}, len(list))
		spoil(list, mark)
		if !sameLists(others, l) {
			t.Fatal(l, "lists share memory")
		}
	}
}

// TestResultsAreNew is R4: what is done to a result changes neither an argument nor another result.
func TestResultsAreNew(t *testing.T) {
	for _, a := range samples(t, 23, 100) {
		given, first := a.copied(), tell(a)
		for range 2 {
			truth, _ := sieve.Truth(given.t)
			spoilOne(t, truth, -99)
			p, _ := sieve.Proof(given.t)
			spoilOne(t, [][]int{p.Rows, p.Columns}, -99)
			narrow, _ := sieve.Narrow(given.t)
			spoilOne(t, append([][]api.Range{narrow.Rows, narrow.Columns}, narrow.Cells...), just(-99))
			when, _ := sieve.More(given.t, given.many)
			spoil(when, -99)
		}
		if again := tell(given); again != first || !sameTable(given.t, a.t) {
			t.Fatal(a, first, again)
		}
	}
}

// TestNilAndEmpty is R3: a nil list and an empty one are the same.
func TestNilAndEmpty(t *testing.T) {
	same := func(one, two arguments) {
		t.Helper()
		if one, two := tell(one), tell(two); one != two {
			t.Error(one, two)
		}
	}
	same(arguments{}, arguments{t: table(ranges(), ranges(), [][]api.Range{}...), n: lists(), p: proof(indices(), indices(), 0)})
	same(arguments{t: api.SieveTable{Cells: [][]api.Range{}}}, arguments{n: [][]int64{}})
	for _, one := range []api.SieveTable{tableT(), tableU()} {
		same(arguments{t: one}, arguments{t: one, n: [][]int64{}, p: proof([]int{}, []int{}, 0)})
		same(arguments{t: one, n: [][]int64{nil, nil}}, arguments{t: one, n: [][]int64{{}, {}}})
	}
	flat := func(cells ...[]api.Range) api.SieveTable { return table(ranges(0, 1, 0, 1), ranges(0, 1), cells...) }
	same(arguments{t: flat(nil, nil)}, arguments{t: flat([]api.Range{}, []api.Range{})})
}
