package taste_test

import (
	"math"
	"slices"
	"testing"

	"senvy/api"
	"senvy/taste"
)

// bookCase is a book and what CheckBook has to return.
type bookCase struct {
	name string
	b    api.TasteBook
	err  api.Errno
}

func bookCases() []bookCase {
	one := sitting(0, 10, 10)
	edge := sitting(0, -1000, 1000, 5, 1000, 1000, 3, -1000, -1000)
	return []bookCase{
		{"A", bookA(), api.OK},
		{"B", bookB(), api.OK},
		{"no taste", book(0, 0, 1), api.OK},
		{"no sitting, six lots", book(0, 50, 6), api.OK},
		{"empty sittings", api.TasteBook{Rate: to(0, 1), Lots: 1, Sittings: [][]api.TasteSaid{}}, api.OK},
		{"four sittings", book(50, 50, 6, edge, edge, edge, edge), api.OK},
		{"twelve tastes", book(0, 50, 1, same(12, 0, 0, 1000)), api.OK},
		{"twelve tastes in two sittings", book(0, 50, 1, same(1, 0, 0, 1000), same(11, 0, 0, 1000)), api.OK},

		{"rate below 0", book(-1, 0, 1), api.ErrRange},
		{"rate above 50", book(0, 51, 1), api.ErrRange},
		{"rate all above 50", book(51, 51, 1), api.ErrRange},
		{"rate all below 0", book(-2, -1, 1), api.ErrRange},
		{"rate the other way round", book(2, 1, 1), api.ErrRange},
		{"rate the other way round at the limits", book(50, 0, 1), api.ErrRange},
		{"rate far away", book(math.MinInt64, math.MaxInt64, 1), api.ErrRange},
		{"rate far away, the other way round", book(math.MaxInt64, math.MinInt64, 1), api.ErrRange},

		{"no lot", book(0, 1, 0), api.ErrMany},
		{"lots below 0", book(0, 1, -1), api.ErrMany},
		{"seven lots", book(0, 1, 7), api.ErrMany},
		{"lots far above", book(0, 1, math.MaxInt), api.ErrMany},
		{"lots far below", book(0, 1, math.MinInt), api.ErrMany},
		{"five sittings", book(0, 1, 1, one, one, one, one, one), api.ErrMany},
		{"an empty sitting first", book(0, 1, 1, nil, one), api.ErrMany},
		{"an empty sitting last", book(0, 1, 1, one, []api.TasteSaid{}), api.ErrMany},
		{"thirteen tastes", book(0, 1, 1, same(13, 0, 0, 1000)), api.ErrMany},
		{"thirteen tastes in two sittings", book(0, 1, 1, same(12, 0, 0, 1000), one), api.ErrMany},
		{"thirteen tastes in four sittings", book(0, 1, 1, one, same(5, 0, 0, 9), same(6, 0, 0, 9), one), api.ErrMany},

		{"lot below 0", book(0, 1, 2, sitting(0, 1, 1, -1, 1, 1)), api.ErrRange},
		{"lot above", book(0, 1, 2, one, sitting(0, 1, 1, 2, 1, 1)), api.ErrRange},
		{"lot above in the first taste", book(0, 1, 1, sitting(1, 1, 1, 0, 1, 1)), api.ErrRange},
		{"lot 6", book(0, 1, 6, sitting(6, 1, 1)), api.ErrRange},
		{"said below", book(0, 1, 1, one, sitting(0, -1001, 1)), api.ErrRange},
		{"said above", book(0, 1, 1, sitting(0, 1, 1001), one), api.ErrRange},
		{"said all above", book(0, 1, 1, sitting(0, 1001, 1001)), api.ErrRange},
		{"said all below", book(0, 1, 1, sitting(0, -1001, -1001)), api.ErrRange},
		{"said the other way round", book(0, 1, 1, sitting(0, 5, 5, 0, 6, 5)), api.ErrRange},
		{"said the other way round at the limits", book(0, 1, 1, sitting(0, 1000, -1000)), api.ErrRange},
		{"said far away", book(0, 1, 1, sitting(0, math.MinInt64, math.MaxInt64)), api.ErrRange},

		{"rate before lots", book(1, 0, 0), api.ErrRange},
		{"rate before all others", book(0, 51, 7, nil, same(13, 9, 2, 1)), api.ErrRange},
		{"lots before a taste", book(0, 1, 0, one), api.ErrMany},
		{"sittings before a taste", book(0, 1, 1, sitting(1, 0, 0), one, one, one, one), api.ErrMany},
		{"an empty sitting before a taste of an earlier one", book(0, 1, 1, sitting(0, 1, 0), nil), api.ErrMany},
		{"too many tastes before the first of them", book(0, 1, 1, sitting(7, 1, 0), same(12, 0, 0, 0)), api.ErrMany},
	}
}

// TestCheckBook is P1.1.
func TestCheckBook(t *testing.T) {
	for _, c := range bookCases() {
		if err := taste.CheckBook(c.b); err != c.err {
			t.Errorf("%s: %v, not %v", c.name, err, c.err)
		}
	}
}

// TestBookFirst checks that the error of the book comes before all others, and that nothing is told with it.
func TestBookFirst(t *testing.T) {
	for _, c := range bookCases() {
		if c.err == api.OK {
			continue
		}
		errs := []api.Errno{taste.CheckTruth(c.b, []int64{-1}, nil)}
		sharp, tired, err := taste.Least(c.b)
		zero := len(sharp)+len(tired) == 0
		errs = append(errs, err)
		sharp, tired, err = taste.Greatest(c.b)
		zero = zero && len(sharp)+len(tired) == 0
		errs = append(errs, err)
		for _, lot := range []int{0, -1, 9} {
			r, err := taste.Span(c.b, lot)
			a, bad := taste.Apart(c.b, lot, 0)
			z, worse := taste.Apart(c.b, 0, lot)
			zero = zero && r == to(0, 0) && a == to(0, 0) && z == to(0, 0)
			errs = append(errs, err, bad, worse)
		}
		for _, round := range [][]int{nil, {0, 1}, {-1}, {1, 1}, {99}} {
			by, err := taste.CheckRound(c.b, round)
			zero = zero && by == 0
			errs = append(errs, err)
		}
		round, err := taste.Round(c.b)
		wrong, bad := taste.Wrong(c.b)
		zero = zero && len(round)+len(wrong) == 0
		errs = append(errs, err, bad)
		for i, err := range errs {
			if err != c.err {
				t.Errorf("%s: call %d: %v, not %v", c.name, i, err, c.err)
			}
		}
		if !zero {
			t.Errorf("%s: a result beside the error", c.name)
		}
	}
}

// TestCheckTruth is P1.2.
func TestCheckTruth(t *testing.T) {
	two := book(2, 4, 2, sitting(0, 10, 20, 1, 10, 20), sitting(1, 0, 30, 0, 6, 9))
	for i, c := range []struct {
		b            api.TasteBook
		sharp, tired []int64
		err          api.Errno
	}{
		{bookA(), []int64{50, 41}, []int64{0, 1, 3}, api.OK},
		{bookA(), []int64{52, 44}, []int64{0, 3, 6}, api.OK},
		{bookA(), []int64{52, 41}, []int64{0, 1, 5}, api.ErrTaste},
		{bookA(), []int64{50, 41}, []int64{0, 1}, api.ErrEqual},
		{bookB(), []int64{50}, []int64{0, 3}, api.ErrTaste},

		{book(0, 0, 2), []int64{0, 1000}, nil, api.OK},
		{book(0, 0, 2), []int64{0, 1000}, []int64{}, api.OK},
		{book(0, 0, 2), []int64{-1, 1000}, nil, api.ErrTaste},
		{book(0, 0, 2), []int64{0, 1001}, nil, api.ErrTaste},

		// Each number at its ends, and one beyond.
		{book(2, 4, 1, sitting(0, 10, 20)), []int64{10}, []int64{0}, api.OK},
		{book(2, 4, 1, sitting(0, 10, 20)), []int64{20}, []int64{0}, api.OK},
		{book(2, 4, 1, sitting(0, 10, 20)), []int64{9}, []int64{0}, api.ErrTaste},
		{book(2, 4, 1, sitting(0, 10, 20)), []int64{21}, []int64{0}, api.ErrTaste},
		{book(2, 4, 1, sitting(0, 10, 20)), []int64{12}, []int64{1}, api.ErrTaste},
		{book(2, 4, 1, sitting(0, 10, 20)), []int64{12}, []int64{-1}, api.ErrTaste},
		{book(2, 4, 1, sitting(0, 0, 20, 0, 0, 20)), []int64{12}, []int64{0, 2}, api.OK},
		{book(2, 4, 1, sitting(0, 0, 20, 0, 0, 20)), []int64{12}, []int64{0, 4}, api.OK},
		{book(2, 4, 1, sitting(0, 0, 20, 0, 0, 20)), []int64{12}, []int64{0, 1}, api.ErrTaste},
		{book(2, 4, 1, sitting(0, 0, 20, 0, 0, 20)), []int64{12}, []int64{0, 5}, api.ErrTaste},
		{book(2, 4, 1, sitting(0, 0, 20, 0, 0, 20)), []int64{12}, []int64{2, 4}, api.ErrTaste},

		// A sitting begins with a rested tongue.
		{book(2, 4, 1, sitting(0, 0, 20), sitting(0, 0, 20)), []int64{12}, []int64{0, 0}, api.OK},
		{book(2, 4, 1, sitting(0, 0, 20), sitting(0, 0, 20)), []int64{12}, []int64{0, 2}, api.ErrTaste},
		{two, []int64{10, 14}, []int64{0, 2, 0, 3}, api.OK},
		{two, []int64{10, 14}, []int64{0, 2, 4, 6}, api.ErrTaste},
		{two, []int64{10, 14}, []int64{0, 2, 0, 1}, api.ErrTaste},
		{two, []int64{10, 11}, []int64{0, 2, 0, 3}, api.ErrTaste},

		// What is said is the sharpness, less the tiredness.
		{book(5, 5, 1, sitting(0, 10, 10, 0, 5, 5)), []int64{10}, []int64{0, 5}, api.OK},
		{book(5, 5, 1, sitting(0, 10, 10, 0, 15, 15)), []int64{10}, []int64{0, 5}, api.ErrTaste},
		{book(1, 1, 1, sitting(0, 0, 0, 0, -1, -1)), []int64{0}, []int64{0, 1}, api.OK},
		{book(1, 1, 1, sitting(0, -1, 0, 0, -2, -2)), []int64{-1}, []int64{0, 1}, api.ErrTaste},

		// The most that a tongue can tire.
		{book(0, 50, 1, same(12, 0, -1000, 1000)), []int64{1000}, []int64{0, 50, 100, 150, 200, 250, 300, 350, 400, 450, 500, 550}, api.OK},
		{book(0, 50, 1, same(12, 0, -1000, 1000)), []int64{1000}, []int64{0, 50, 100, 150, 200, 250, 300, 350, 400, 450, 500, 551}, api.ErrTaste},

		// Too many, too few, and this before what they are.
		{bookA(), []int64{50}, []int64{0, 1, 3}, api.ErrEqual},
		{bookA(), []int64{50, 41, 1}, []int64{0, 1, 3}, api.ErrEqual},
		{bookA(), []int64{50, 41}, []int64{0, 1, 3, 4}, api.ErrEqual},
		{bookA(), []int64{50, 41, 0}, []int64{1, 3}, api.ErrEqual},
		{bookA(), nil, nil, api.ErrEqual},
		{bookA(), []int64{-9, 5000}, []int64{7}, api.ErrEqual},

		// Numbers whose differences overflow.
		{bookA(), []int64{math.MinInt64, math.MaxInt64}, []int64{0, math.MinInt64, math.MaxInt64}, api.ErrTaste},
		{bookA(), []int64{50, 41}, []int64{math.MinInt64, math.MinInt64 + 1, math.MinInt64 + 3}, api.ErrTaste},
		{bookA(), []int64{50, 41}, []int64{0, math.MaxInt64, math.MinInt64}, api.ErrTaste},
	} {
		if err := taste.CheckTruth(c.b, c.sharp, c.tired); err != c.err {
			t.Errorf("%d: %v, not %v", i, err, c.err)
		}
	}
}

// TestCheckTruthAll compares CheckTruth with the definition, for all numbers near a truth.
func TestCheckTruthAll(t *testing.T) {
	b := book(1, 2, 2, sitting(0, 3, 4, 1, 2, 3), sitting(1, 4, 5))
	count := 0
	for n := range 8 * 8 * 3 * 5 * 3 {
		sharp := []int64{int64(n % 8), int64(n / 8 % 8)}
		tired := []int64{int64(n/64%3) - 1, int64(n / 192 % 5), int64(n/960%3) - 1}
		right := isTruth(b, sharp, tired)
		if err := taste.CheckTruth(b, sharp, tired); (err == api.OK) != right || !right && err != api.ErrTaste {
			t.Fatal(sharp, tired, err)
		}
		if right {
			count++
		}
	}
	if count == 0 {
		t.Error("no truth was tried")
	}
}

// TestLeastGreatest is P1.3.
func TestLeastGreatest(t *testing.T) {
	for i, c := range []struct {
		b              api.TasteBook
		sharp, tired   []int64
		sharp2, tired2 []int64
	}{
		{bookA(), []int64{50, 41}, []int64{0, 1, 3}, []int64{52, 44}, []int64{0, 3, 6}},
		{book(0, 9, 2), []int64{0, 0}, nil, []int64{1000, 1000}, nil},
		{book(5, 5, 1, same(12, 0, -1000, 1000)),
			[]int64{0}, []int64{0, 5, 10, 15, 20, 25, 30, 35, 40, 45, 50, 55},
			[]int64{1000}, []int64{0, 5, 10, 15, 20, 25, 30, 35, 40, 45, 50, 55}},
		{book(0, 50, 1, same(12, 0, -1000, 1000)),
			[]int64{0}, make([]int64, 12),
			[]int64{1000}, []int64{0, 50, 100, 150, 200, 250, 300, 350, 400, 450, 500, 550}},
		{book(3, 3, 2, sitting(0, 998, 1000, 1, 900, 1000), sitting(1, 950, 999)),
			[]int64{998, 950}, []int64{0, 3, 0}, []int64{1000, 999}, []int64{0, 3, 0}},
		{book(1, 6, 1, sitting(0, 20, 20, 0, 15, 17)), []int64{20}, []int64{0, 3}, []int64{20}, []int64{0, 5}},
	} {
		sharp, tired, err := taste.Least(c.b)
		if !slices.Equal(sharp, c.sharp) || !slices.Equal(tired, c.tired) || err != api.OK {
			t.Error(i, sharp, tired, err)
		}
		sharp, tired, err = taste.Greatest(c.b)
		if !slices.Equal(sharp, c.sharp2) || !slices.Equal(tired, c.tired2) || err != api.OK {
			t.Error(i, sharp, tired, err)
		}
	}
	for i, b := range untrue() {
		sharp, tired, err := taste.Least(b)
		if len(sharp)+len(tired) > 0 || err != api.ErrTaste {
			t.Error(i, sharp, tired, err)
		}
		sharp, tired, err = taste.Greatest(b)
		if len(sharp)+len(tired) > 0 || err != api.ErrTaste {
			t.Error(i, sharp, tired, err)
		}
	}
}

// untrue returns books without a truth, each for another reason.
func untrue() []api.TasteBook {
	return []api.TasteBook{
		bookB(),
		book(0, 0, 1, sitting(0, -5, -1)), // no lot is below 0
		book(1, 5, 1, sitting(0, 0, 1000, 0, 1000, 1000)), // no lot is above 1000
		book(0, 5, 1, sitting(0, 50, 50, 0, 40, 44)),      // tires too slowly
		book(6, 9, 1, sitting(0, 50, 50, 0, 45, 47)),      // tires too fast
		book(0, 0, 1, sitting(0, 5, 6), sitting(0, 7, 8)),
		book(5, 5, 2, sitting(0, 100, 110, 1, 50, 60), sitting(1, 60, 60, 0, 90, 94)),
		book(1, 1, 6, sitting(5, 1, 1), sitting(5, 2, 2), same(10, 0, -1000, 1000)),
	}
}

// TestSpanApart is P1.4.
func TestSpanApart(t *testing.T) {
	a := bookA()
	for i, c := range []struct {
		b   api.TasteBook
		lot int
		r   api.Range
		err api.Errno
	}{
		{a, 0, to(50, 52), api.OK},
		{a, 1, to(41, 44), api.OK},
		{a, 2, to(0, 0), api.ErrArg},
		{a, -1, to(0, 0), api.ErrArg},
		{a, math.MaxInt, to(0, 0), api.ErrArg},
		{a, math.MinInt, to(0, 0), api.ErrArg},
		{bookB(), 0, to(0, 0), api.ErrTaste},
		{bookB(), 1, to(0, 0), api.ErrArg},
		{book(0, 1, 6), 5, to(0, 1000), api.OK},
		{book(0, 1, 6), 6, to(0, 0), api.ErrArg},
	} {
		if r, err := taste.Span(c.b, c.lot); r != c.r || err != c.err {
			t.Error(i, r, err)
		}
	}
	for i, c := range []struct {
		b        api.TasteBook
		one, two int
		r        api.Range
		err      api.Errno
	}{
		{a, 0, 1, to(6, 10), api.OK},
		{a, 1, 0, to(-10, -6), api.OK},
		{a, 1, 1, to(0, 0), api.OK},
		{a, 0, 2, to(0, 0), api.ErrArg},
		{a, 2, 0, to(0, 0), api.ErrArg},
		{a, -1, 1, to(0, 0), api.ErrArg},
		{a, 1, math.MinInt, to(0, 0), api.ErrArg},
		{a, math.MaxInt, 1, to(0, 0), api.ErrArg},
		{a, 2, 2, to(0, 0), api.ErrArg},
		{bookB(), 0, 0, to(0, 0), api.ErrTaste},
		{bookB(), 0, 1, to(0, 0), api.ErrArg},
		{bookB(), 1, 0, to(0, 0), api.ErrArg},
		{book(0, 1, 3), 0, 2, to(-1000, 1000), api.OK},
		{book(0, 1, 3), 2, 2, to(0, 0), api.OK},
	} {
		if r, err := taste.Apart(c.b, c.one, c.two); r != c.r || err != c.err {
			t.Error(i, r, err)
		}
	}
}

// TestCheckRound is P1.5 for CheckRound.
func TestCheckRound(t *testing.T) {
	top := book(1, 5, 1, sitting(0, 0, 1000, 0, 1000, 1000)) // names 0, the lot 1, the tastes 2 and 3
	apart := book(1, 2, 2, sitting(0, 5, 5), sitting(1, 5, 5))
	for i, c := range []struct {
		b     api.TasteBook
		round []int
		by    int64
		err   api.Errno
	}{
		{bookB(), []int{1, 2, 3}, 2, api.OK},
		{bookB(), []int{2, 3, 1}, 2, api.OK},
		{bookB(), []int{3, 1, 2}, 2, api.OK},
		{bookB(), []int{3, 2, 1}, 0, api.ErrSum},
		{bookB(), []int{1, 3}, 0, api.ErrSum},
		{bookB(), []int{1, 2}, 0, api.ErrSum}, // its sum is 0
		{bookB(), []int{2, 0}, 0, api.ErrSum},
		{bookB(), []int{1, 1}, 0, api.ErrArg},
		{bookB(), []int{4}, 0, api.ErrArg},
		{bookB(), []int{-1}, 0, api.ErrArg},
		{bookB(), []int{math.MinInt}, 0, api.ErrArg},
		{bookB(), []int{math.MaxInt}, 0, api.ErrArg},
		{bookB(), nil, 0, api.ErrMany},
		{bookB(), []int{}, 0, api.ErrMany},
		{bookA(), []int{1, 3, 4, 5}, 0, api.ErrSum},
		{bookA(), []int{0, 2, 4}, 0, api.ErrRule},

		// A name alone has no bound to itself.
		{bookB(), []int{0}, 0, api.ErrRule},
		{bookB(), []int{1}, 0, api.ErrRule},
		{bookB(), []int{3}, 0, api.ErrRule},
		// Only the first taste of a sitting is bound to 0.
		{bookB(), []int{0, 3}, 0, api.ErrRule},
		{bookB(), []int{0, 2, 3}, 0, api.ErrRule},
		{bookB(), []int{3, 0, 2}, 0, api.ErrRule},
		// The last taste of a sitting is not bound to the first one of the next one, nor a taste to another lot.
		{apart, []int{3, 4}, 0, api.ErrRule},
		{apart, []int{1, 4}, 0, api.ErrRule},
		{apart, []int{2, 3}, 0, api.ErrRule},
		{apart, []int{1, 2}, 0, api.ErrRule},
		{apart, []int{0, 4}, 0, api.ErrSum},
		{apart, []int{0, 3}, 0, api.ErrSum},

		// Several errors at once.
		{bookB(), []int{0, 3, 0}, 0, api.ErrArg},
		{bookB(), []int{0, 3, 9}, 0, api.ErrArg},
		{bookB(), []int{1, 2, 3, 1, 2, 3}, 0, api.ErrArg},
		{bookB(), []int{1, 2, 3, 0}, 0, api.ErrRule},

		// All kinds of bounds.
		{top, []int{0, 1, 3, 2}, 1, api.OK},
		{top, []int{1, 3, 2, 0}, 1, api.OK},
		{top, []int{2, 3, 1}, 0, api.ErrSum},
		{top, []int{1, 3, 2}, 1, api.OK},
		{book(0, 0, 1, sitting(0, -5, -1)), []int{1, 0, 2}, 1, api.OK},
		{book(0, 0, 1, sitting(0, -5, -1)), []int{0, 1, 2}, 0, api.ErrSum},
		{book(0, 0, 1, sitting(0, 5, 6), sitting(0, 9, 9)), []int{0, 2, 1, 3}, 3, api.OK},
		{book(0, 0, 1, sitting(0, 5, 6), sitting(0, 9, 9)), []int{0, 3, 1, 2}, 0, api.ErrSum},
	} {
		if by, err := taste.CheckRound(c.b, c.round); by != c.by || err != c.err {
			t.Errorf("%d: %v: %d %v, not %d %v", i, c.round, by, err, c.by, c.err)
		}
	}
}

// everyList calls a function with each list of up to so many of the numbers from -1 to one above the names.
func everyList(names, length int, visit func([]int)) {
	list := make([]int, 0, length)
	var fill func()
	fill = func() {
		visit(list)
		if len(list) == length {
			return
		}
		for name := -1; name <= names; name++ {
			list = append(list, name)
			fill()
			list = list[:len(list)-1]
		}
	}
	fill()
}

// TestCheckRoundAll compares CheckRound with the definition, for all short lists of names.
func TestCheckRoundAll(t *testing.T) {
	books := append(untrue()[:6], bookA(), book(2, 3, 1, sitting(0, 10, 11), sitting(0, 12, 13, 0, 5, 6)), book(7, 9, 2, sitting(1, 950, 960)))
	proved := 0
	for _, b := range books {
		everyList(1+b.Lots+len(places(b)), 4, func(round []int) {
			by, err := taste.CheckRound(b, round)
			want, fail := checkRound(b, round)
			if by != want || err != fail {
				t.Fatalf("%v of %v: %d %v, not %d %v", round, b, by, err, want, fail)
			}
			if err == api.OK {
				proved++
			}
		})
	}
	if proved == 0 {
		t.Error("no round proved")
	}
}

// TestRound is P1.5 for Round: what is found is checked by the definitions alone.
func TestRound(t *testing.T) {
	for i, b := range untrue() {
		round, err := taste.Round(b)
		if err != api.OK {
			t.Error(i, err)
		}
		if by, bad := checkRound(b, round); by <= 0 || bad != api.OK {
			t.Error(i, round, by, bad)
		}
	}
	for i, b := range []api.TasteBook{bookA(), book(0, 0, 1), book(0, 50, 6, same(12, 3, -1000, 1000)), book(5, 5, 1, sitting(0, 50, 50, 0, 45, 45))} {
		if round, err := taste.Round(b); len(round) > 0 || err != api.ErrNone {
			t.Error(i, round, err)
		}
	}
}

// TestWrong is P1.6.
func TestWrong(t *testing.T) {
	for i, c := range []struct {
		b     api.TasteBook
		wrong []int
	}{
		{bookA(), []int{0, 1, 2}},
		{bookB(), []int{0, 1}},
		{book(0, 1, 6), nil},
		{book(0, 0, 1, sitting(0, 5, 5, 0, 5, 5, 0, 6, 6)), []int{2}},
		{book(0, 0, 1, sitting(0, 6, 6, 0, 5, 5, 0, 5, 5)), []int{0}},
		{book(0, 0, 1, sitting(0, 5, 5), sitting(0, 6, 6), sitting(0, 5, 5)), []int{1}},
		{book(0, 0, 1, sitting(0, 5, 5, 0, 6, 6, 0, 7, 7)), nil},
		{book(0, 0, 2, sitting(0, 5, 5, 0, 6, 6, 1, 5, 5, 1, 6, 6)), nil},
		{book(0, 0, 1, sitting(0, -5, -1)), []int{0}},
		{book(0, 0, 2, sitting(0, -5, -1, 1, -5, -1)), nil},
		// The tongue tires by a taste that is not looked at: without the second one the third one would be as tired as it.
		{book(5, 5, 2, sitting(0, 50, 50, 1, -9, -6, 0, 40, 40)), []int{1}},
		{book(5, 5, 2, sitting(0, 50, 50, 1, -9, -6, 0, 45, 45)), nil},
		{book(5, 5, 2, sitting(0, 50, 50, 1, 7, 7, 0, 45, 45)), []int{0, 2}},
	} {
		if wrong, err := taste.Wrong(c.b); !slices.Equal(wrong, c.wrong) || err != api.OK {
			t.Error(i, wrong, err)
		}
	}
}
