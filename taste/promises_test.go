package taste_test

import (
	"fmt"
	"math"
	"reflect"
	"slices"
	"sync"
	"testing"

	"senvy/api"
	"senvy/dice"
	"senvy/taste"
)

// tell returns all that the package tells of a book, by all its functions.
func tell(b api.TasteBook, sharp, tired []int64, round []int, one, two int) string {
	var out []any
	add := func(results ...any) { out = append(out, results...) }
	add(taste.CheckBook(b))
	add(taste.CheckTruth(b, sharp, tired))
	s, u, err := taste.Least(b)
	add(s, u, err)
	s, u, err = taste.Greatest(b)
	add(s, u, err)
	r, err := taste.Span(b, one)
	add(r, err)
	r, err = taste.Apart(b, one, two)
	add(r, err)
	n, err := taste.CheckRound(b, round)
	add(n, err)
	l, err := taste.Round(b)
	add(l, err)
	l, err = taste.Wrong(b)
	add(l, err)
	return fmt.Sprint(out...)
}

// TestAnyArguments is P1: no arguments make a function panic or run without end.
func TestAnyArguments(t *testing.T) {
	d := dice.Dice(7)
	ends := []int64{math.MinInt64, math.MinInt64 + 1, -1001, -1000, -1, 0, 1, 2, 5, 6, 7, 50, 51, 1000, 1001, math.MaxInt64 - 1, math.MaxInt64}
	end := func() int64 { return ends[d.Below(len(ends))] }
	mild := func() int64 {
		if d.Below(8) > 0 {
			return d.From(0, 6)
		}
		return end()
	}
	list := func() []int64 {
		var out []int64
		for range d.Below(6) {
			out = append(out, mild())
		}
		return out
	}
	for range 3000 {
		b := book(mild(), mild(), int(mild()))
		for range d.Below(6) {
			var s []api.TasteSaid
			for range d.Below(6) {
				s = append(s, api.TasteSaid{Lot: int(mild()), Said: to(mild(), mild())})
			}
			b.Sittings = append(b.Sittings, s)
		}
		var round []int
		for _, n := range list() {
			round = append(round, int(n))
		}
		sharp, tired := list(), list()
		one, two := int(mild()), int(mild())
		if first, again := tell(b, sharp, tired, round, one, two), tell(clone(b), sharp, tired, round, one, two); first != again {
			t.Fatal(b, first, again)
		}
	}
}

// TestSameResults is P2: equal arguments give equal results, each time and side by side.
func TestSameResults(t *testing.T) {
	books := append(untrue(), bookA())
	books = append(books, larges(t, 60)...)
	for _, b := range books {
		first := tell(b, nil, nil, []int{0, 1}, 0, b.Lots-1)
		results := make([]string, 8)
		var group sync.WaitGroup
		for i := range results {
			group.Go(func() { results[i] = tell(b, nil, nil, []int{0, 1}, 0, b.Lots-1) })
		}
		group.Wait()
		for _, again := range results {
			if again != first {
				t.Fatal(b, first, again)
			}
		}
	}
}

// roomy returns a book whose lists have room behind their ends, and a look at all of that memory.
func roomy(b api.TasteBook) (api.TasteBook, func() [][]api.TasteSaid) {
	b = clone(b)
	mark := sitting(3, 77, 78)
	for i, s := range b.Sittings {
		b.Sittings[i] = append(append(s, mark...), mark...)[:len(s)]
	}
	n := len(b.Sittings)
	b.Sittings = append(append(b.Sittings, mark), mark)[:n]
	return b, func() [][]api.TasteSaid {
		var out [][]api.TasteSaid
		for _, s := range b.Sittings[:n+2] {
			out = append(out, slices.Clone(s[:cap(s)]))
		}
		return out
	}
}

// TestArgumentsStay is R4: no argument is changed, nor the memory behind the end of one.
func TestArgumentsStay(t *testing.T) {
	for _, b := range append(untrue(), bookA(), book(0, 1, 2)) {
		room, look := roomy(b)
		before := look()
		sharp := []int64{50, 41, -7, -7}
		tired := []int64{0, 1, 3, -7, -7}
		round := []int{3, 1, 2, -7, -7}
		tell(room, sharp[:2], tired[:3], round[:3], 0, 1)
		if !reflect.DeepEqual(before, look()) || room.Rate != b.Rate || room.Lots != b.Lots {
			t.Error(b, look())
		}
		if !slices.Equal(sharp, []int64{50, 41, -7, -7}) || !slices.Equal(tired, []int64{0, 1, 3, -7, -7}) || !slices.Equal(round, []int{3, 1, 2, -7, -7}) {
			t.Error(b, sharp, tired, round)
		}
	}
}

// TestResultsAreNew is R4: what is done to a result changes neither an argument nor another result.
func TestResultsAreNew(t *testing.T) {
	spoil := func(b api.TasteBook) {
		for range 2 {
			sharp, tired, _ := taste.Least(b)
			more, most, _ := taste.Greatest(b)
			for _, l := range [][]int64{sharp, tired, more, most} {
				for i := range l[:cap(l)] {
					l[:cap(l)][i] = -99
				}
			}
			round, _ := taste.Round(b)
			wrong, _ := taste.Wrong(b)
			for _, l := range [][]int{round, wrong} {
				for i := range l[:cap(l)] {
					l[:cap(l)][i] = -99
				}
			}
		}
	}
	for _, b := range append(untrue(), bookA()) {
		before := clone(b)
		first := tell(b, nil, nil, nil, 0, 0)
		spoil(b)
		if again := tell(b, nil, nil, nil, 0, 0); again != first || !reflect.DeepEqual(b, before) {
			t.Error(b, first, again)
		}
		sharp, tired, err := taste.Least(b)
		for i := range sharp[:cap(sharp)] {
			sharp[:cap(sharp)][i] = -99
		}
		if err == api.OK && slices.Contains(tired, -99) {
			t.Error(b, "both lists share memory")
		}
	}
}

// TestNilAndEmpty is R3: a nil list and an empty one are the same.
func TestNilAndEmpty(t *testing.T) {
	b := book(0, 9, 3)
	empty := api.TasteBook{Rate: b.Rate, Lots: 3, Sittings: [][]api.TasteSaid{}}
	if one, two := tell(b, nil, nil, nil, 1, 2), tell(empty, []int64{}, []int64{}, []int{}, 1, 2); one != two {
		t.Error(one, two)
	}
	b.Sittings, empty.Sittings = [][]api.TasteSaid{nil}, [][]api.TasteSaid{{}}
	if one, two := tell(b, nil, nil, nil, 1, 2), tell(empty, []int64{}, []int64{}, []int{}, 1, 2); one != two {
		t.Error(one, two)
	}
}
