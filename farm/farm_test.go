package farm_test

import (
	"math"
	"slices"
	"testing"

	"senvy/api"
	"senvy/farm"
)

// yearCase is a year and what CheckYear has to return.
type yearCase struct {
	name string
	year api.FarmYear
	err  api.Errno
}

func yearCases() []yearCase {
	nine := make([]int64, 9)
	return []yearCase{
		{"Y", yearY(), api.OK},
		{"the largest one", largest(), api.OK},
		{"the smallest one", year(0, 1), api.OK},
		{"one farm with all", year(200, 100), api.OK},
		{"the first farm alone has some", year(7, 1, 0, 0), api.OK},
		{"the last farm alone has some", year(7, 0, 0, 0, 0, 0, 0, 0, 1), api.OK},

		{"a price below nothing", year(-1, 1), api.ErrRange},
		{"a price too great", year(201, 1), api.ErrRange},
		{"a price far too small", year(math.MinInt64, 1), api.ErrRange},
		{"a price far too great", year(math.MaxInt64, 1), api.ErrRange},
		{"no farms", year(1), api.ErrMany},
		{"nothing at all", api.FarmYear{}, api.ErrMany},
		{"a farm too many", year(1, 1, 1, 1, 1, 1, 1, 1, 1, 1), api.ErrMany},
		{"many farms", year(1, slices.Repeat(numbers(1), 1000)...), api.ErrMany},
		{"less than nothing first", year(1, -1, 5), api.ErrRange},
		{"less than nothing last", year(1, 5, -1), api.ErrRange},
		{"too much first", year(1, 101, 5), api.ErrRange},
		{"too much last", year(1, 5, 101), api.ErrRange},
		{"far too little", year(1, 5, math.MinInt64), api.ErrRange},
		{"far too much", year(1, math.MaxInt64, 5), api.ErrRange},
		{"numbers of which the sum is nothing", year(1, 5, -5), api.ErrRange},
		{"one farm with nothing", year(1, 0), api.ErrRule},
		{"all farms with nothing", year(0, 0, 0, 0, 0, 0, 0, 0, 0), api.ErrRule},

		{"a bad price before no farms", year(-1), api.ErrRange},
		{"a bad price before too many farms", year(201, nine...), api.ErrRange},
		{"a bad price before nothing for all", year(201, 0), api.ErrRange},
		{"too many farms before bad numbers", year(1, slices.Repeat(numbers(-1), 9)...), api.ErrMany},
		{"too many farms before nothing for all", year(1, nine...), api.ErrMany},
		{"a bad number before nothing for all others", year(1, 0, -1), api.ErrRange},
	}
}

// roughCase is a rough year and what CheckRough has to return.
type roughCase struct {
	name string
	year api.FarmRough
	err  api.Errno
}

func roughCases() []roughCase {
	return []roughCase{
		{"R", roughR(), api.OK},
		{"the largest one", largestRough(), api.OK},
		{"the smallest one", rough(0, 1, 1), api.OK},
		{"known exactly", rough(10, 53, 53, 24, 24, 23, 23), api.OK},
		{"the first farm alone surely has some", rough(10, 1, 1, 0, 100, 0, 0), api.OK},
		{"the last farm alone surely has some", rough(10, 0, 100, 0, 0, 100, 100), api.OK},

		{"a price below nothing", rough(-1, 1, 1), api.ErrRange},
		{"a price too great", rough(201, 1, 1), api.ErrRange},
		{"a price far too small", rough(math.MinInt64, 1, 1), api.ErrRange},
		{"a price far too great", rough(math.MaxInt64, 1, 1), api.ErrRange},
		{"no farms", rough(1), api.ErrMany},
		{"nothing at all", api.FarmRough{}, api.ErrMany},
		{"a farm too many", rough(1, slices.Repeat(numbers(1, 1), 9)...), api.ErrMany},
		{"many farms", rough(1, slices.Repeat(numbers(1, 1), 1000)...), api.ErrMany},
		{"a range that is none first", rough(1, 3, 2, 1, 1), api.ErrRange},
		{"a range that is none last", rough(1, 1, 1, 3, 2), api.ErrRange},
		{"less than nothing", rough(1, 3, 3, -1, 0), api.ErrRange},
		{"too much", rough(1, 0, 101, 1, 1), api.ErrRange},
		{"nothing but too much", rough(1, 101, 101, 1, 1), api.ErrRange},
		{"far too little", rough(1, 1, 1, math.MinInt64, 5), api.ErrRange},
		{"far too much", rough(1, 1, 1, 5, math.MaxInt64), api.ErrRange},
		{"turned round, and far off", rough(1, 1, 1, math.MaxInt64, math.MinInt64), api.ErrRange},
		{"one farm with nothing", rough(1, 0, 0), api.ErrRule},
		{"all farms can have nothing", rough(1, 0, 100, 0, 5), api.ErrRule},

		{"a bad price before no farms", rough(-1), api.ErrRange},
		{"a bad price before too many farms", rough(201, make([]int64, 18)...), api.ErrRange},
		{"a bad price before nothing for all", rough(201, 0, 0), api.ErrRange},
		{"too many farms before bad ranges", rough(1, slices.Repeat(numbers(3, 2), 9)...), api.ErrMany},
		{"too many farms before nothing for all", rough(1, make([]int64, 18)...), api.ErrMany},
		{"a bad range before nothing for all others", rough(1, 0, 0, 0, 101), api.ErrRange},
		{"a range that is none before nothing for all others", rough(1, 0, 5, 0, -1), api.ErrRange},
	}
}

// TestCheckYear is P8.1 for CheckYear.
func TestCheckYear(t *testing.T) {
	for _, c := range yearCases() {
		if err := farm.CheckYear(c.year); err != c.err {
			t.Errorf("%s: %v: %v, not %v", c.name, c.year, err, c.err)
		}
	}
}

// TestCheckRough is P8.1 for CheckRough.
func TestCheckRough(t *testing.T) {
	for _, c := range roughCases() {
		if err := farm.CheckRough(c.year); err != c.err {
			t.Errorf("%s: %v: %v, not %v", c.name, c.year, err, c.err)
		}
	}
}

// call is what a function returned: whether it told something, and its error.
type call struct {
	name string
	some bool
	err  api.Errno
}

// shareCalls calls all functions that take shares.
func shareCalls(y api.FarmYear, shares []int64) []call {
	out := []call{{"CheckFair", false, farm.CheckFair(y, shares)}}
	one, two, err := farm.Complaint(y, shares)
	out = append(out, call{"Complaint", one != 0 || two != 0, err})
	lower, upper, err := farm.Divisors(y, shares)
	out = append(out, call{"Divisors", lower != by(0, 0) || upper != by(0, 0), err})
	off, err := farm.CheckNear(y, shares)
	return append(out, call{"CheckNear", off != 0, err})
}

// yearCalls calls all functions with a year but CheckYear.
func yearCalls(y api.FarmYear, index int, shares []int64) []call {
	out := shareCalls(y, shares)
	quota, err := farm.Quota(y, index)
	out = append(out, call{"Quota", quota != by(0, 0), err})
	list, err := farm.Fair(y)
	out = append(out, call{"Fair", len(list) > 0, err})
	n, err := farm.Next(y)
	out = append(out, call{"Next", n != 0, err})
	list, err = farm.Near(y)
	return append(out, call{"Near", len(list) > 0, err})
}

// TestYearFirst checks that the error of the year comes before all others, and that nothing is told with it.
func TestYearFirst(t *testing.T) {
	for _, c := range yearCases() {
		if c.err == api.OK {
			continue
		}
		for _, shares := range [][]int64{nil, numbers(1), numbers(-1, 300), numbers(0, 0), make([]int64, 50), make([]int64, len(c.year.Clean))} {
			for _, index := range []int{math.MinInt, -1, 0, 1, 8, 9, math.MaxInt} {
				for _, got := range yearCalls(c.year, index, shares) {
					if got.some || got.err != c.err {
						t.Errorf("%s: %s: %v, not %v, or a result beside it", c.name, got.name, got.err, c.err)
					}
				}
			}
		}
	}
	for _, c := range roughCases() {
		for _, index := range []int{math.MinInt, -1, 0, 1, 8, 9, math.MaxInt} {
			if s, err := farm.Span(c.year, index); c.err != api.OK && (s != to(0, 0) || err != c.err) {
				t.Errorf("%s: Span: %v %v, not %v", c.name, s, err, c.err)
			}
		}
	}
}

// TestNoFarm is ErrArg of P8.2 and P8.7.
func TestNoFarm(t *testing.T) {
	for _, c := range yearCases() {
		for _, index := range []int{math.MinInt, -1, len(c.year.Clean), api.MaxFarms, math.MaxInt} {
			if q, err := farm.Quota(c.year, index); c.err == api.OK && (q != by(0, 0) || err != api.ErrArg) {
				t.Errorf("%s: %d: %v %v", c.name, index, q, err)
			}
		}
	}
	for _, c := range roughCases() {
		for _, index := range []int{math.MinInt, -1, len(c.year.Clean), api.MaxFarms, math.MaxInt} {
			if s, err := farm.Span(c.year, index); c.err == api.OK && (s != to(0, 0) || err != api.ErrArg) {
				t.Errorf("%s: %d: %v %v", c.name, index, s, err)
			}
		}
	}
}

// TestQuota is P8.2.
func TestQuota(t *testing.T) {
	for i, c := range []struct {
		year  api.FarmYear
		index int
		quota api.Ratio
	}{
		{yearY(), 0, by(53, 10)},
		{yearY(), 1, by(12, 5)},
		{yearY(), 2, by(23, 10)},
		{year(0, 5), 0, by(0, 1)},
		{year(9, 0, 5), 0, by(0, 1)},
		{year(9, 0, 5), 1, by(9, 1)},
		{year(200, 100), 0, by(200, 1)},
		{year(2, 1, 1, 1), 2, by(2, 3)},
		{year(199, 100, 100, 97), 2, by(199*97, 297)},
		{largest(), 7, by(25, 1)},
	} {
		if q, err := farm.Quota(c.year, c.index); q != c.quota || err != api.OK {
			t.Error(i, c.year, c.index, q, err)
		}
	}
}

// TestKnownYears is P8.3, and P8.6 for Near, for years of which the answers are known.
func TestKnownYears(t *testing.T) {
	for i, c := range []struct {
		year       api.FarmYear
		fair, near []int64
		next       int
	}{
		{yearY(), numbers(6, 2, 2), numbers(5, 3, 2), 1},
		{year(0, 1), numbers(0), numbers(0), 0},
		{year(200, 1), numbers(200), numbers(200), 0},
		{year(0, 3, 5), numbers(0, 0), numbers(0, 0), 1},
		{largest(), slices.Repeat(numbers(25), 8), slices.Repeat(numbers(25), 8), 0},
		// Of several farms the first one comes first.
		{year(1, 4, 4, 4), numbers(1, 0, 0), numbers(1, 0, 0), 1},
		{year(5, 4, 4, 4), numbers(2, 2, 1), numbers(2, 2, 1), 2},
		{year(2, 1, 2), numbers(1, 1), numbers(1, 1), 1},
		{year(2, 2, 1), numbers(2, 0), numbers(1, 1), 1},
		{year(1, 2, 3, 3), numbers(0, 1, 0), numbers(0, 1, 0), 2},
		{year(4, 3, 3, 2), numbers(2, 1, 1), numbers(2, 1, 1), 1},
		// Farms of which nothing was clean have no coin.
		{year(5, 0, 5, 0), numbers(0, 5, 0), numbers(0, 5, 0), 1},
		{year(3, 0, 1, 1), numbers(0, 2, 1), numbers(0, 2, 1), 2},
		// A fair share can be more than its quota, rounded up.
		{year(10, 60, 7, 7, 7, 7, 6, 6), numbers(8, 1, 1, 0, 0, 0, 0), numbers(6, 1, 1, 1, 1, 0, 0), 3},
		{year(7, 100, 1, 1, 1), numbers(7, 0, 0, 0), numbers(7, 0, 0, 0), 0},
		// With one coin more a farm can have one coin less of near shares, but not of fair ones.
		{year(10, 6, 6, 2), numbers(5, 4, 1), numbers(4, 4, 2), 1},
		{year(11, 6, 6, 2), numbers(5, 5, 1), numbers(5, 5, 1), 0},
	} {
		if l, err := farm.Fair(c.year); !slices.Equal(l, c.fair) || err != api.OK {
			t.Error(i, c.year, l, err)
		}
		if l, err := farm.Near(c.year); !slices.Equal(l, c.near) || err != api.OK {
			t.Error(i, c.year, l, err)
		}
		if n, err := farm.Next(c.year); n != c.next || err != api.OK {
			t.Error(i, c.year, n, err)
		}
		if err := farm.CheckFair(c.year, c.fair); err != api.OK {
			t.Error(i, c.year, c.fair, err)
		}
		if _, err := farm.CheckNear(c.year, c.near); err != api.OK {
			t.Error(i, c.year, c.near, err)
		}
	}
}

// TestBadShares checks the error of shares, in all functions that take them (P8.4, P8.5, P8.6).
func TestBadShares(t *testing.T) {
	for i, c := range []struct {
		year   api.FarmYear
		shares []int64
		err    api.Errno
	}{
		{yearY(), nil, api.ErrEqual},
		{yearY(), numbers(6, 4), api.ErrEqual},
		{yearY(), numbers(6, 2, 2, 0), api.ErrEqual},
		{yearY(), make([]int64, 1000), api.ErrEqual},
		{year(0, 1), nil, api.ErrEqual},
		{yearY(), numbers(7, 4, -1), api.ErrRange},
		{yearY(), numbers(-1, 6, 5), api.ErrRange},
		{yearY(), numbers(6, 2, 201), api.ErrRange},
		{yearY(), numbers(math.MinInt64, 2, 2), api.ErrRange},
		{yearY(), numbers(6, 2, math.MaxInt64), api.ErrRange},
		// Their sums are the price only because they are too great to be summed.
		{yearY(), numbers(math.MaxInt64, math.MaxInt64, 12), api.ErrRange},
		{yearY(), numbers(math.MinInt64, math.MinInt64, 10), api.ErrRange},
		{yearY(), numbers(6, 2, 1), api.ErrSum},
		{yearY(), numbers(6, 2, 3), api.ErrSum},
		{yearY(), numbers(200, 200, 200), api.ErrSum},
		{yearY(), numbers(0, 0, 0), api.ErrSum},
		{year(0, 1), numbers(1), api.ErrSum},
		{largest(), make([]int64, 8), api.ErrSum},

		// Several errors at once.
		{yearY(), numbers(-1), api.ErrEqual},
		{yearY(), numbers(201, 0, 0, 0), api.ErrEqual},
		{yearY(), numbers(1, 1), api.ErrEqual},
		{yearY(), numbers(-1, 0, 0), api.ErrRange},
		{yearY(), numbers(0, 0, 201), api.ErrRange},
		// All of them can also be complained of, and are not near.
		{yearY(), numbers(0, 10), api.ErrEqual},
		{yearY(), numbers(-1, 0, 11), api.ErrRange},
		{yearY(), numbers(0, 0, 11), api.ErrSum},
	} {
		for _, got := range shareCalls(c.year, c.shares) {
			if got.some || got.err != c.err {
				t.Errorf("%d: %s: %v, not %v, or a result beside it", i, got.name, got.err, c.err)
			}
		}
	}
}

// sharesCase is shares of a year and what is told of them; lower and upper are 0 by 0 if there is no divisor, off is -1 if the shares are not near.
type sharesCase struct {
	year         api.FarmYear
	shares       []int64
	farm, other  int // who can complain; both 0 if nobody can
	lower, upper api.Ratio
	off          int64
}

func sharesCases() []sharesCase {
	no := by(0, 0)
	return []sharesCase{
		{yearY(), numbers(6, 2, 2), 0, 0, by(8, 1), by(53, 6), 140},
		{yearY(), numbers(5, 3, 2), 0, 1, no, no, 120},
		{yearY(), numbers(7, 2, 1), 1, 0, no, no, -1},
		{yearY(), numbers(5, 2, 3), 0, 2, no, no, 140},
		{yearY(), numbers(0, 0, 10), 0, 2, no, no, -1},
		{yearY(), numbers(0, 5, 5), 0, 1, no, no, -1},
		{yearY(), numbers(10, 0, 0), 1, 0, no, no, -1},
		{yearY(), numbers(9, 1, 0), 1, 0, no, no, -1},
		// Nobody has a coin.
		{year(0, 1), numbers(0), 0, 0, by(1, 1), by(0, 1), 0},
		{year(0, 3, 5), numbers(0, 0), 0, 0, by(5, 1), by(0, 1), 0},
		{year(0, 0, 100, 0), numbers(0, 0, 0), 0, 0, by(100, 1), by(0, 1), 0},
		// One farm alone.
		{year(200, 100), numbers(200), 0, 0, by(100, 201), by(1, 2), 0},
		{year(1, 100), numbers(1), 0, 0, by(50, 1), by(100, 1), 0},
		// Nobody can complain, but there is no divisor.
		{year(2, 1, 1, 1), numbers(1, 1, 0), 0, 0, no, no, 4},
		{year(2, 1, 1, 1), numbers(0, 1, 1), 0, 0, no, no, 4},
		{year(2, 2, 1), numbers(1, 1), 0, 0, no, no, 2},
		{year(2, 2, 1), numbers(2, 0), 0, 0, no, no, 4},
		{year(3, 1, 1, 1), numbers(1, 1, 1), 0, 0, by(1, 2), by(1, 1), 0},
		// A farm of which nothing was clean, with a coin.
		{year(1, 0, 5), numbers(1, 0), 1, 0, no, no, -1},
		{year(2, 0, 5, 5), numbers(1, 1, 0), 1, 0, no, no, -1},
		{year(1, 0, 5), numbers(0, 1), 0, 0, by(5, 2), by(5, 1), 0},
		// A quota that is a whole number is rounded neither down nor up.
		{year(4, 1, 1), numbers(2, 2), 0, 0, by(1, 3), by(1, 2), 0},
		{year(4, 1, 1), numbers(3, 1), 1, 0, no, no, -1},
		{year(4, 1, 1), numbers(1, 3), 0, 1, no, no, -1},
		// A fair share can be more than its quota, rounded up: then fair shares are not near.
		{year(10, 60, 7, 7, 7, 7, 6, 6), numbers(8, 1, 1, 0, 0, 0, 0), 0, 0, no, no, -1},
		{year(8, 60, 7, 7, 7, 7, 6, 6), numbers(8, 0, 0, 0, 0, 0, 0), 0, 0, by(7, 1), by(15, 2), -1},
		{year(8, 60, 7, 7, 7, 7, 6, 6), numbers(5, 1, 1, 1, 0, 0, 0), 0, 1, no, no, 304},
		{largest(), slices.Repeat(numbers(25), 8), 0, 0, by(50, 13), by(4, 1), 0},
		// The second farm can complain against the first, and against the third; so can the fourth.
		{year(9, 1, 9, 1, 9), numbers(4, 1, 3, 1), 1, 0, no, no, -1},
		{year(9, 9, 9, 1, 1), numbers(5, 0, 2, 2), 0, 2, no, no, -1},
		{year(9, 4, 8, 2, 2), numbers(3, 3, 0, 3), 0, 3, no, no, -1},
	}
}

// TestKnownShares is P8.4, P8.5 and P8.6 for shares of which the answers are known.
func TestKnownShares(t *testing.T) {
	for i, c := range sharesCases() {
		fair, complaint, divisors, off, near := api.OK, api.ErrNone, api.OK, c.off, api.OK
		if c.farm != c.other {
			fair, complaint = api.ErrFarm, api.OK
		}
		if c.lower == by(0, 0) {
			divisors = api.ErrFarm
		}
		if c.off < 0 {
			off, near = 0, api.ErrFarm
		}
		if err := farm.CheckFair(c.year, c.shares); err != fair {
			t.Error(i, err)
		}
		if one, two, err := farm.Complaint(c.year, c.shares); one != c.farm || two != c.other || err != complaint {
			t.Error(i, one, two, err)
		}
		if lower, upper, err := farm.Divisors(c.year, c.shares); lower != c.lower || upper != c.upper || err != divisors {
			t.Error(i, lower, upper, err)
		}
		if n, err := farm.CheckNear(c.year, c.shares); n != off || err != near {
			t.Error(i, n, err)
		}
	}
}

// TestKnownSpans is P8.7 for rough years of which the answers are known.
func TestKnownSpans(t *testing.T) {
	for i, c := range []struct {
		year  api.FarmRough
		spans []api.Range
	}{
		{roughR(), []api.Range{to(5, 6), to(2, 2), to(2, 3)}},
		{rough(10, 53, 53, 24, 24, 23, 23), []api.Range{to(6, 6), to(2, 2), to(2, 2)}},
		{rough(10, 0, 100, 1, 1), []api.Range{to(0, 10), to(0, 10)}},
		{rough(0, 1, 100, 1, 100), []api.Range{to(0, 0), to(0, 0)}},
		{rough(200, 1, 100), []api.Range{to(200, 200)}},
		{rough(1, 1, 2, 1, 2), []api.Range{to(0, 1), to(0, 1)}},
		// As much for both: the coin goes to the first one.
		{rough(1, 1, 1, 0, 1), []api.Range{to(1, 1), to(0, 0)}},
		{rough(1, 0, 1, 1, 1), []api.Range{to(0, 1), to(0, 1)}},
		{rough(2, 0, 0, 1, 5), []api.Range{to(0, 0), to(2, 2)}},
	} {
		for index, want := range c.spans {
			if s, err := farm.Span(c.year, index); s != want || err != api.OK {
				t.Error(i, c.year, index, s, err)
			}
		}
	}
}
