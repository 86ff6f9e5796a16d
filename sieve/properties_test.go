package sieve_test

import (
	"slices"
	"testing"

	"senvy/api"
	"senvy/dice"
	"senvy/sieve"
)

// TestTried compares all that is told of small tables with what trying all numbers finds (P4.2, P4.4, P4.5, P4.6, P4.8).
func TestTried(t *testing.T) {
	many := 0
	for _, one := range smalls(t, 1, 1200) {
		a := try(one)
		truth, err := sieve.Truth(one)
		got, ok := spans(t, one)
		if ok != (a.truths > 0) || !sameLists(truth, a.first) || ok && err != api.OK || !ok && err != api.ErrSieve {
			t.Fatal(one, truth, err, a.first)
		}
		if !ok {
			continue
		}
		many += min(a.truths/2, 1)
		same := func(got api.Range, s seen) {
			t.Helper()
			if want, whole := s.span(); got != want || !whole {
				t.Fatal(one, got, s)
			}
		}
		same(got.all, a.all)
		for row, s := range a.rows {
			same(got.Rows[row], s)
		}
		for column, s := range a.columns {
			same(got.Columns[column], s)
		}
		for row, cells := range a.cells {
			for column, s := range cells {
				same(got.Cells[row][column], s)
			}
		}
		compareMore(t, one, a)
	}
	if many < 100 {
		t.Error(many)
	}
}

// compareMore compares what More tells of a table with the sums that were seen.
func compareMore(t *testing.T, one api.SieveTable, a answer) {
	t.Helper()
	for many := int64(-2); many <= 50; many++ {
		var want []int
		for _, s := range a.rows {
			above := 0
			for n := range s {
				if n > many {
					above++
				}
			}
			switch above {
			case 0:
				want = append(want, api.SieveNever)
			case len(s):
				want = append(want, api.SieveAlways)
			default:
				want = append(want, api.SieveMay)
			}
		}
		if got, err := sieve.More(one, many); !slices.Equal(got, want) || err != api.OK {
			t.Fatal(one, many, got, err, want)
		}
	}
}

// TestLarge checks what is told of tables up to the limits of the chapter: each end can be, and nothing beyond it (P4.2, P4.4, P4.5, P4.8).
func TestLarge(t *testing.T) {
	for _, one := range larges(t, 2, 400) {
		got, ok := spans(t, one)
		if ok != canBe(one) {
			t.Fatal(one, ok)
		}
		if !ok {
			continue
		}
		if got.all != allWithin(one) {
			t.Fatal(one, got.all)
		}
		for at, r := range bounds(got.SieveTable) {
			wide := *bounds(one)[at]
			for _, n := range numbers(r.Lo-1, r.Lo, r.Hi, r.Hi+1) {
				set := func(t api.SieveTable) { *bounds(t)[at] = just(n) }
				if can := contains(wide, n) && canBe(changed(one, set)); can != contains(*r, n) {
					t.Fatal(one, at, *r, n)
				}
			}
		}
		compareFirst(t, one)
	}
}

// compareFirst checks that the truth of a table is one, and that no number of it can be less without one before it being greater.
func compareFirst(t *testing.T, one api.SieveTable) {
	t.Helper()
	truth, err := sieve.Truth(one)
	if err != api.OK || len(truth) != len(one.Rows) || !isTruth(one, truth) {
		t.Fatal(one, truth, err)
	}
	rest := clone(one)
	for row, list := range truth {
		for column, n := range list {
			cell := &rest.Cells[row][column]
			if n > cell.Lo {
				if *cell = to(cell.Lo, n-1); canBe(rest) {
					t.Fatal(one, truth, row, column)
				}
			}
			*cell = just(n)
		}
	}
}

// TestCheckTruths compares CheckTruth with the definition (P4.2).
func TestCheckTruths(t *testing.T) {
	d := dice.Dice(3)
	counts := map[api.Errno]int{}
	for _, one := range smalls(t, 4, 100) {
		wide := clone(one)
		for _, r := range bounds(wide)[len(one.Rows)+len(one.Columns):] {
			if d.Below(9) == 0 {
				*r = to(r.Lo-1, r.Hi+1)
			}
		}
		everyNumbers(wide, func(n [][]int64) {
			want := api.OK
			for row, list := range n {
				for column, i := range list {
					if !contains(one.Cells[row][column], i) {
						want = api.ErrRange
					}
				}
			}
			if want == api.OK && !isTruth(one, n) {
				want = api.ErrSieve
			}
			if err := sieve.CheckTruth(one, n); err != want {
				t.Fatal(one, n, err, want)
			}
			counts[want]++
		})
	}
	if len(counts) != 3 || min(counts[api.OK], counts[api.ErrSieve], counts[api.ErrRange]) < 100 {
		t.Error(counts)
	}
}

// TestProofs compares CheckProof with the definition, for all proofs there are (P4.3).
func TestProofs(t *testing.T) {
	proved := map[int]int{}
	for _, one := range larges(t, 5, 600) {
		everyProof(one, func(p api.SieveProof) bool {
			want, bad := shortBy(one, p), api.OK
			if want <= 0 {
				want, bad = 0, api.ErrSum
			} else {
				proved[p.Side]++
			}
			if short, err := sieve.CheckProof(one, p); short != want || err != bad {
				t.Fatal(one, p, short, err, want)
			}
			return true
		})
	}
	if min(proved[api.SieveColumns], proved[api.SieveRows]) < 100 {
		t.Error(proved)
	}
}

// compareProof checks that there is a truth, or a proof that there is none, not both.
func compareProof(t *testing.T, one api.SieveTable, truths bool) (side int) {
	t.Helper()
	truth, err := sieve.Truth(one)
	p, bad := sieve.Proof(one)
	if truths {
		if err != api.OK || len(truth) == 0 || bad != api.ErrNone || len(p.Rows)+len(p.Columns)+p.Side > 0 || !canBe(one) {
			t.Fatal(one, truth, err, p, bad)
		}
		return -1
	}
	short, worse := sieve.CheckProof(one, p)
	if err != api.ErrSieve || len(truth) > 0 || bad != api.OK || worse != api.OK || short < 1 || shortBy(one, p) != short {
		t.Fatal(one, truth, err, p, bad, short, worse)
	}
	return p.Side
}

// TestEither is P4.7, and P4.3 for Proof.
func TestEither(t *testing.T) {
	counts := map[int]int{}
	for _, one := range smalls(t, 6, 1500) {
		counts[compareProof(t, one, try(one).truths > 0)]++
	}
	for _, one := range larges(t, 7, 1500) {
		counts[compareProof(t, one, canBe(one))]++
	}
	if min(counts[-1], counts[api.SieveColumns], counts[api.SieveRows]) < 100 {
		t.Error(counts)
	}
}

// TestNarrow is P4.9.
func TestNarrow(t *testing.T) {
	narrower := 0
	for _, one := range smalls(t, 8, 400) {
		narrow, err := sieve.Narrow(one)
		if err != api.OK {
			continue
		}
		if again, err := sieve.Narrow(narrow); !sameTable(narrow, again) || err != api.OK {
			t.Fatal(one, narrow, again, err)
		}
		if !sameTable(one, narrow) {
			narrower++
		}
		everyNumbers(one, func(n [][]int64) {
			if isTruth(one, n) != isTruth(narrow, n) {
				t.Fatal(one, narrow, n)
			}
		})
		all := try(narrow).truths
		for at, r := range bounds(narrow) {
			for _, less := range ranges(r.Lo+1, r.Hi, r.Lo, r.Hi-1) {
				set := func(t api.SieveTable) { *bounds(t)[at] = less }
				if try(changed(narrow, set)).truths >= all {
					t.Fatal(one, narrow, at, less)
				}
			}
		}
	}
	if narrower < 50 {
		t.Error(narrower)
	}
}

// TestTurned is P4.10.
func TestTurned(t *testing.T) {
	for _, one := range larges(t, 9, 200) {
		there := turned(one)
		here, ok := spans(t, one)
		back, can := spans(t, there)
		if ok != can || !sameTable(turned(here.SieveTable), back.SieveTable) || here.all != back.all {
			t.Fatal(one, here, back)
		}
		if ok {
			continue
		}
		p, err := sieve.Proof(one)
		short, bad := sieve.CheckProof(one, p)
		same, worse := sieve.CheckProof(there, proof(p.Columns, p.Rows, 1-p.Side))
		if err != api.OK || bad != api.OK || worse != api.OK || short != same {
			t.Fatal(one, p, err, short, bad, same, worse)
		}
	}
}

// moved returns a range whose ends are as many more.
func moved(r api.Range, by int64) api.Range { return to(r.Lo+by, r.Hi+by) }

// TestMoved is P4.11.
func TestMoved(t *testing.T) {
	d := dice.Dice(10)
	truths, proofs := 0, 0
	for _, one := range larges(t, 11, 900) {
		row, column, by := d.Below(len(one.Rows)), d.Below(len(one.Columns)), d.From(-2, 2)
		move := func(t api.SieveTable) {
			for _, r := range []*api.Range{&t.Rows[row], &t.Columns[column], &t.Cells[row][column]} {
				*r = moved(*r, by)
			}
		}
		other := changed(one, move)
		if sieve.CheckTable(other) != api.OK {
			continue
		}
		here, ok := spans(t, one)
		there, can := spans(t, other)
		if ok != can {
			t.Fatal(one, other)
		}
		if !ok {
			proofs++
			p, _ := sieve.Proof(one)
			short, err := sieve.CheckProof(one, p)
			if same, bad := sieve.CheckProof(other, p); err != api.OK || bad != api.OK || same != short {
				t.Fatal(one, other, p, short, same)
			}
			continue
		}
		truths++
		move(here.SieveTable)
		if !sameTable(here.SieveTable, there.SieveTable) || moved(here.all, by) != there.all {
			t.Fatal(one, other, here, there)
		}
		truth, _ := sieve.Truth(one)
		truth[row][column] += by
		if same, _ := sieve.Truth(other); !sameLists(same, truth) {
			t.Fatal(one, other, truth, same)
		}
	}
	if min(truths, proofs) < 100 {
		t.Error(truths, proofs)
	}
}

// TestWider is P4.12.
func TestWider(t *testing.T) {
	d := dice.Dice(12)
	more := 0
	for _, one := range larges(t, 13, 400) {
		wider := clone(one)
		for at, r := range bounds(wider) {
			*r = to(max(0, r.Lo-max(0, d.From(-2, 2))), min(r.Hi+max(0, d.From(-2, 2)), limit(one, at)))
		}
		got, ok := spans(t, one)
		then, can := spans(t, wider)
		if !ok {
			more += min(len(then.Rows), 1)
			continue
		}
		truth, _ := sieve.Truth(one)
		if !can || sieve.CheckTruth(wider, truth) != api.OK || !inside(got.all, then.all) {
			t.Fatal(one, wider, truth, got, then)
		}
		for at, r := range bounds(got.SieveTable) {
			if !inside(*r, *bounds(then.SieveTable)[at]) {
				t.Fatal(one, wider, at)
			}
		}
		if first, _ := sieve.Truth(wider); slices.CompareFunc(first, truth, slices.Compare) > 0 {
			t.Fatal(one, wider, first, truth)
		}
	}
	if more < 20 {
		t.Error(more)
	}
}

// TestSums is P4.13.
func TestSums(t *testing.T) {
	closer := 0
	for _, one := range larges(t, 14, 400) {
		got, ok := spans(t, one)
		if !ok {
			continue
		}
		for _, side := range [][]api.Range{got.Rows, got.Columns} {
			both := to(sums(side))
			if !inside(got.all, both) {
				t.Fatal(one, got.all, both)
			}
			if got.all != both {
				closer++
			}
		}
		var last []int
		for many := int64(50); many >= -2; many-- {
			when, err := sieve.More(one, many)
			if err != api.OK || len(when) != len(one.Rows) {
				t.Fatal(one, many, when, err)
			}
			for row := range last {
				if when[row] < last[row] {
					t.Fatal(one, many, row, when, last)
				}
			}
			last = when
		}
	}
	if closer < 20 {
		t.Error(closer)
	}
}
