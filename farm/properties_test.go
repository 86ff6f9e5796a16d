package farm_test

import (
	"slices"
	"testing"

	"senvy/api"
	"senvy/dice"
	"senvy/farm"
)

// small returns years with so few farms and coins that all their shares can be tried.
func small(t *testing.T, seed dice.Dice, n int) []api.FarmYear {
	t.Helper()
	all := append(years(t, seed, n, 4, 6), year(0, 1), year(2, 1, 1, 1), year(3, 1, 1, 1), priced(yearY(), 6), year(4, 0, 1, 0, 2))
	for one := range int64(5) {
		for two := range int64(5) {
			for price := range int64(5) {
				if one+two > 0 {
					all = append(all, year(price, one, two), year(price, one, two, 2))
				}
			}
		}
	}
	return all
}

// mixed returns years of all sizes.
func mixed(t *testing.T, seed dice.Dice, n int) []api.FarmYear {
	t.Helper()
	return append(years(t, seed, n, api.MaxFarms, api.MaxFarmPrice), yearY(), largest(), year(0, 5), priced(largest(), 199))
}

// TestTriedYears compares what is told of years with the definitions (P8.2, P8.3, P8.6).
func TestTriedYears(t *testing.T) {
	differ := 0
	for _, y := range append(mixed(t, 1, 1500), small(t, 2, 500)...) {
		fair, near := list(t, farm.Fair, y), list(t, farm.Near, y)
		if want := fairTried(y); !slices.Equal(fair, want) {
			t.Fatal(y, fair, want)
		}
		if want := nearTried(y); !slices.Equal(near, want) {
			t.Fatal(y, near, want)
		}
		if n := next(t, y); n != nextTried(y, fair) {
			t.Fatal(y, n, nextTried(y, fair))
		}
		for i := range y.Clean {
			if q, err := farm.Quota(y, i); q != asRatio(quotaTried(y, i)) || err != api.OK {
				t.Fatal(y, i, q, err)
			}
		}
		if !slices.Equal(fair, near) {
			differ++
		}
	}
	if differ < 200 {
		t.Error(differ)
	}
}

// TestTriedShares compares what is told of shares with the definitions: for all shares of small years, and for some of large ones (P8.4, P8.5, P8.6).
func TestTriedShares(t *testing.T) {
	var counts [8]int
	compare := func(y api.FarmYear, shares []int64) {
		kind := 0
		for i, err := range compareShares(t, y, shares) {
			if err == api.OK {
				kind |= 1 << i
			}
		}
		counts[kind]++
	}
	for _, y := range small(t, 3, 300) {
		allShares(len(y.Clean), y.Price, func(shares []int64) { compare(y, shares) })
	}
	d := dice.Dice(4)
	large := mixed(t, 5, 100)
	for price := range int64(40) {
		large = append(large, year(price, 60, 7, 7, 7, 7, 6, 6))
	}
	for _, y := range large {
		for _, shares := range [][]int64{fairTried(y), nearTried(y)} {
			for range 4 {
				compare(y, shares)
				shares = moved(&d, shares)
			}
		}
	}
	// Shares of which a farm can complain have no divisor; all else happens.
	if min(counts[0], counts[1], counts[3], counts[4], counts[5], counts[7]) < 20 || counts[2]+counts[6] > 0 {
		t.Error(counts)
	}
}

// compareShares compares CheckFair, Complaint, Divisors and CheckNear with the definitions, and returns what CheckFair, Divisors and CheckNear have to return.
func compareShares(t *testing.T, y api.FarmYear, shares []int64) [3]api.Errno {
	t.Helper()
	want := [3]api.Errno{}
	one, other, found := complaintTried(y, shares)
	complaint := api.ErrNone
	if found {
		complaint, want[0] = api.OK, api.ErrFarm
	}
	lower, upper, found := divisorsTried(y, shares)
	if !found {
		want[1] = api.ErrFarm
	}
	off := offTried(y, shares)
	if !isNear(y, shares) {
		off, want[2] = 0, api.ErrFarm
	}
	if err := farm.CheckFair(y, shares); err != want[0] {
		t.Fatal(y, shares, err)
	}
	if i, j, err := farm.Complaint(y, shares); i != one || j != other || err != complaint {
		t.Fatal(y, shares, i, j, err, one, other)
	}
	if low, high, err := farm.Divisors(y, shares); low != lower || high != upper || err != want[1] {
		t.Fatal(y, shares, low, high, err, lower, upper)
	}
	if n, err := farm.CheckNear(y, shares); n != off || err != want[2] {
		t.Fatal(y, shares, n, err, off)
	}
	return want
}

// roughs throws so many rough years with few truths.
func roughs(seed dice.Dice, n int) []api.FarmRough {
	all := []api.FarmRough{rough(5, 0, 3, 1, 1, 0, 3), rough(3, 1, 2, 1, 2, 1, 2), rough(0, 1, 2), rough(4, 0, 2, 2, 2, 0, 0)}
	for range n {
		y := thrown(&seed, 1+seed.Below(4), 30)
		r := around(&seed, y, 2)
		for len(r.Clean) > 3 {
			r.Clean[seed.Below(4)] = to(1, 1)
			r.Clean = r.Clean[:3]
		}
		if farm.CheckRough(r) == api.OK {
			all = append(all, r)
		}
	}
	return all
}

// TestTriedSpans compares Span with what trying all truths finds (P8.7).
func TestTriedSpans(t *testing.T) {
	wide := 0
	all := append(roughs(6, 300), rough(10, 50, 53, 20, 24, 23, 30))
	for _, r := range all {
		for i, want := range spansTried(r) {
			if got := span(t, r, i); got != want {
				t.Fatal(r, i, got, want)
			}
			wide += int(min(want.Hi-want.Lo, 1))
		}
	}
	if len(all) < 200 || wide < 100 {
		t.Error(len(all), wide)
	}
}

// TestProved is P8.8.
func TestProved(t *testing.T) {
	divisible, tied := 0, 0
	for _, y := range small(t, 7, 300) {
		var quiet [][]int64
		allShares(len(y.Clean), y.Price, func(shares []int64) {
			_, _, none := farm.Complaint(y, shares)
			fair := farm.CheckFair(y, shares)
			if (fair == api.OK) != (none == api.ErrNone) {
				t.Fatal(y, shares, fair, none)
			}
			if _, _, err := farm.Divisors(y, shares); err == api.OK {
				divisible++
				if fair != api.OK {
					t.Fatal(y, shares, fair)
				}
			}
			if fair == api.OK {
				quiet = append(quiet, slices.Clone(shares))
			}
		})
		for _, one := range quiet {
			for _, two := range quiet {
				if !differByCoin(one, two) {
					t.Fatal(y, one, two)
				}
			}
		}
		tied += min(len(quiet)/2, 1)
	}
	if min(divisible, tied) < 50 {
		t.Error(divisible, tied)
	}
	for _, y := range mixed(t, 8, 1000) {
		fair := list(t, farm.Fair, y)
		if err := farm.CheckFair(y, fair); err != api.OK {
			t.Fatal(y, fair, err)
		}
	}
}

// differByCoin tells whether two lists of shares differ for no farm by more than a coin.
func differByCoin(one, two []int64) bool {
	for i := range one {
		if max(one[i]-two[i], two[i]-one[i]) > 1 {
			return false
		}
	}
	return true
}

// TestDivisor checks that numbers up to the upper end, and above the lower one, make the shares, and that those at the lower end, and above the upper one, do not (P8.5).
func TestDivisor(t *testing.T) {
	found := 0
	for _, y := range mixed(t, 9, 1000) {
		fair := list(t, farm.Fair, y)
		lower, upper, err := farm.Divisors(y, fair)
		if err != api.OK {
			continue
		}
		found++
		low, high := rat(lower.Num, lower.Den), rat(upper.Num, upper.Den)
		if y.Price == 0 {
			high = rat(1000, 1)
		}
		middle := rat(0, 1).Add(low, high)
		middle.Mul(middle, rat(1, 2))
		if !isDivisor(y, fair, high) || !isDivisor(y, fair, middle) || isDivisor(y, fair, low) {
			t.Fatal(y, fair, lower, upper)
		}
		above := rat(0, 1).Mul(high, rat(1_000_001, 1_000_000))
		if isDivisor(y, fair, above) != (y.Price == 0) {
			t.Fatal(y, fair, lower, upper)
		}
	}
	if found < 300 {
		t.Error(found)
	}
}

// TestQuotaKept is P8.9.
func TestQuotaKept(t *testing.T) {
	for _, y := range mixed(t, 10, 1500) {
		near, fair := list(t, farm.Near, y), list(t, farm.Fair, y)
		if n, err := farm.CheckNear(y, near); n != offTried(y, near) || err != api.OK {
			t.Fatal(y, near, n, err)
		}
		if offTried(y, fair) < offTried(y, near) {
			t.Fatal(y, fair, near)
		}
		for i := range fair {
			if fair[i] < floor(quotaTried(y, i)) {
				t.Fatal(y, fair, i)
			}
		}
	}
	for _, y := range small(t, 11, 300) {
		least, err := farm.CheckNear(y, list(t, farm.Near, y))
		if err != api.OK {
			t.Fatal(y, err)
		}
		allShares(len(y.Clean), y.Price, func(shares []int64) {
			if offTried(y, shares) < least {
				t.Fatal(y, shares, least)
			}
		})
	}
}

// TestOneCoinMore is P8.10.
func TestOneCoinMore(t *testing.T) {
	counts := map[int]int{}
	for _, y := range mixed(t, 12, 2000) {
		if y.Price == api.MaxFarmPrice {
			continue
		}
		shares := list(t, farm.Fair, y)
		n := next(t, y)
		shares[n]++
		if more := list(t, farm.Fair, priced(y, y.Price+1)); !slices.Equal(more, shares) {
			t.Fatal(y, n, shares, more)
		}
		counts[n]++
	}
	if len(counts) != api.MaxFarms {
		t.Error(counts)
	}
}

// TestJoined is P8.11.
func TestJoined(t *testing.T) {
	var counts [2]int
	for _, y := range append(mixed(t, 13, 1500), small(t, 14, 300)...) {
		shares := list(t, farm.Fair, y)
		for two := range y.Clean {
			for one := range two {
				if y.Clean[one]+y.Clean[two] > api.MaxFarmClean {
					continue
				}
				joined := with(y, one, y.Clean[one]+y.Clean[two])
				joined.Clean = slices.Delete(joined.Clean, two, two+1)
				more := list(t, farm.Fair, joined)[one] - shares[one] - shares[two]
				if more != 0 && more != 1 {
					t.Fatal(y, one, two, more)
				}
				counts[more]++
			}
		}
	}
	if min(counts[0], counts[1]) < 200 {
		t.Error(counts)
	}
}

// TestScaled is P8.12: all shares stay, and so does all else but what is measured in what was clean.
func TestScaled(t *testing.T) {
	d := dice.Dice(15)
	scaled := 0
	for _, y := range append(mixed(t, 16, 2000), small(t, 17, 300)...) {
		most := api.MaxFarmClean / slices.Max(y.Clean)
		times := d.From(1, most)
		more := cloneYear(y)
		for i := range more.Clean {
			more.Clean[i] *= times
		}
		for _, of := range []func(api.FarmYear) ([]int64, api.Errno){farm.Fair, farm.Near} {
			one, two := list(t, of, y), list(t, of, more)
			if !slices.Equal(one, two) {
				t.Fatal(y, times, one, two)
			}
			off, err := farm.CheckNear(y, one)
			if n, again := farm.CheckNear(more, one); n != off*times || again != err {
				t.Fatal(y, times, one, off, err, n, again)
			}
			i, j, err := farm.Complaint(y, one)
			if k, l, again := farm.Complaint(more, one); k != i || l != j || again != err {
				t.Fatal(y, times, one, i, j, err, k, l, again)
			}
		}
		if next(t, y) != next(t, more) {
			t.Fatal(y, times)
		}
		scaled += int(min(times-1, 1))
	}
	if scaled < 500 {
		t.Error(scaled)
	}
}

// TestMoreClean is P8.13.
func TestMoreClean(t *testing.T) {
	d := dice.Dice(18)
	grew := 0
	for _, y := range append(mixed(t, 19, 2000), small(t, 20, 500)...) {
		shares := list(t, farm.Fair, y)
		index := d.Below(len(y.Clean))
		if y.Clean[index] == api.MaxFarmClean {
			continue
		}
		last := min(y.Clean[index]+d.From(1, 20), api.MaxFarmClean)
		more := list(t, farm.Fair, with(y, index, d.From(y.Clean[index]+1, last)))
		for i := range shares {
			if i == index && more[i] < shares[i] || i != index && more[i] > shares[i] {
				t.Fatal(y, index, shares, more)
			}
		}
		grew += int(min(more[index]-shares[index], 1))
	}
	if grew < 200 {
		t.Error(grew)
	}
}

// within throws numbers of which each is in a range.
func within(d *dice.Dice, r api.FarmRough) api.FarmYear {
	y := year(r.Price)
	for _, clean := range r.Clean {
		y.Clean = append(y.Clean, d.From(clean.Lo, clean.Hi))
	}
	return y
}

// TestInSpan is P8.14.
func TestInSpan(t *testing.T) {
	d := dice.Dice(21)
	narrow, less := 0, 0
	for _, y := range mixed(t, 22, 1000) {
		r := around(&d, y, 30)
		one, two := within(&d, r), within(&d, r)
		inner := rough(r.Price)
		for i := range r.Clean {
			inner.Clean = append(inner.Clean, to(min(one.Clean[i], two.Clean[i]), max(one.Clean[i], two.Clean[i])))
		}
		for i := range r.Clean {
			outside, inside := span(t, r, i), span(t, inner, i)
			if outside.Lo > inside.Lo || outside.Hi < inside.Hi {
				t.Fatal(r, inner, i, outside, inside)
			}
			for _, truth := range []api.FarmYear{one, two} {
				if share := list(t, farm.Fair, truth)[i]; share < inside.Lo || share > inside.Hi {
					t.Fatal(inner, truth, i, share, inside)
				}
			}
			if share := list(t, farm.Fair, y)[i]; share < outside.Lo || share > outside.Hi {
				t.Fatal(r, y, i, share, outside)
			}
			narrow += int(min(inside.Hi-inside.Lo, 1))
			less += int(min(outside.Hi-outside.Lo-inside.Hi+inside.Lo, 1))
		}
	}
	if min(narrow, less) < 500 {
		t.Error(narrow, less)
	}
}

// TestExact checks that the Span of what is known exactly is the fair share (P8.7, P8.14).
func TestExact(t *testing.T) {
	d := dice.Dice(23)
	for _, y := range mixed(t, 24, 500) {
		r := around(&d, y, 0)
		for i, share := range list(t, farm.Fair, y) {
			if s := span(t, r, i); s != to(share, share) {
				t.Fatal(y, i, share, s)
			}
		}
	}
}

// TestAlike is P8.15.
func TestAlike(t *testing.T) {
	d := dice.Dice(25)
	var counts [2]int
	for _, y := range append(mixed(t, 26, 2000), small(t, 27, 300)...) {
		one := d.Below(len(y.Clean))
		y = with(y, d.Below(len(y.Clean)), max(y.Clean[one], 1))
		y.Clean[one] = max(y.Clean[one], 1)
		for _, shares := range [][]int64{list(t, farm.Fair, y), list(t, farm.Near, y)} {
			for two := range shares {
				for one := range two {
					if y.Clean[one] != y.Clean[two] {
						continue
					}
					more := shares[one] - shares[two]
					if more != 0 && more != 1 {
						t.Fatal(y, one, two, shares)
					}
					counts[more]++
				}
			}
		}
	}
	if min(counts[0], counts[1]) < 500 {
		t.Error(counts)
	}
}
