package pot_test

import (
	"slices"
	"testing"

	"senvy/api"
	"senvy/dice"
	"senvy/pot"
)

// TestTried compares all that is told of rows with what trying all lists of lots and of weak pots finds (P6.2, P6.3, P6.5, P6.6, P6.7).
func TestTried(t *testing.T) {
	several, equals := 0, 0
	for _, r := range append(rows(t, 1, 800), rowR(), rowS(), largest()) {
		if pots, err := pot.Unknown(r); !slices.Equal(pots, missed(r)) || err != api.OK {
			t.Fatal(r, pots, err)
		}
		if pots, err := pot.Apart(r); !slices.Equal(pots, tryApart(r)) || err != api.OK {
			t.Fatal(r, pots, err)
		}
		compareLists(t, r)
		a, ok := tryLots(r)
		if !ok {
			for _, got := range calls(r, nil, 0) {
				if slices.Contains([]string{"Least", "Lots", "Prices", "Fewest", "Blame"}, got.name) && (got.some || got.err != api.ErrPot) {
					t.Fatal(r, got)
				}
			}
			continue
		}
		n, _ := least(t, r)
		lots, fewest, _, blame := lists(t, r)
		if n != a.least || !slices.Equal(lots, a.lots) || len(fewest) != a.fewest || !explains(r, fewest) || !slices.Equal(blame, a.blame) {
			t.Fatal(r, n, lots, fewest, blame, a)
		}
		if n, err := pot.CheckLots(r, fewest); n != callsBack(r, fewest) || err != api.OK {
			t.Fatal(r, fewest, n, err)
		}
		several += min(len(lots)/3, 1)
		equals += min(max(0, slices.Index(blame, api.PotMay)), 1)
	}
	if several < 50 || equals < 50 {
		t.Error(several, equals)
	}
}

// compareLists compares CheckLots with the definition, for all increasing lists of lots, and for lists that are none.
func compareLists(t *testing.T, r api.PotRow) {
	t.Helper()
	parts(upTo(len(r.Lots)), func(lots []int) {
		want, bad := callsBack(r, lots), api.OK
		if !explains(r, lots) {
			want, bad = 0, api.ErrPot
		}
		if n, err := pot.CheckLots(r, lots); n != want || err != bad {
			t.Fatal(r, lots, n, err)
		}
		for _, wrong := range [][]int{append(slices.Clone(lots), len(r.Lots)), append(indices(-1), lots...)} {
			if n, err := pot.CheckLots(r, wrong); n != 0 || err != api.ErrArg {
				t.Fatal(r, wrong, n, err)
			}
		}
	})
}

// TestTriedPrices compares Prices and Least with trying all prices of small rows (P6.4, P6.9).
func TestTriedPrices(t *testing.T) {
	d := dice.Dice(2)
	tried := 0
	for range 400 {
		r := thrown(&d, 6, 6, 4)
		n, ok := least(t, r)
		if !ok {
			continue
		}
		tried++
		prices, err := pot.Prices(r)
		if err != api.OK || !areRight(r, prices) {
			t.Fatal(r, prices, err)
		}
		// No price is greater than the size of a lot, which is at most 6.
		if most := tryPrices(r, 6); n != most {
			t.Fatal(r, n, most)
		}
	}
	if tried < 200 {
		t.Error(tried)
	}
}

// TestPricesThrown compares CheckPrices with the definition (P6.4).
func TestPricesThrown(t *testing.T) {
	d := dice.Dice(3)
	good, bad := 0, 0
	for _, r := range rows(t, 4, 1500) {
		if len(r.Weak) == 0 {
			continue
		}
		prices := pricesThrown(&d, r)
		if d.Below(2) == 0 {
			prices[d.Below(len(prices))] = d.Below(api.MaxPots + 1)
		}
		sum, err := pot.CheckPrices(r, prices)
		if !areRight(r, prices) {
			bad++
			if sum != 0 || err != api.ErrSum {
				t.Fatal(r, prices, sum, err)
			}
			continue
		}
		good++
		want := 0
		for _, price := range prices {
			want += price
		}
		if sum != want || err != api.OK {
			t.Fatal(r, prices, sum, err)
		}
	}
	if min(good, bad) < 200 {
		t.Error(good, bad)
	}
}

// TestProved is P6.9.
func TestProved(t *testing.T) {
	d := dice.Dice(5)
	tight := 0
	for _, r := range explainable(rows(t, 6, 600)) {
		n, _ := least(t, r)
		prices, err := pot.Prices(r)
		if sum, bad := pot.CheckPrices(r, prices); err != api.OK || bad != api.OK || sum != n {
			t.Fatal(r, prices, err, sum, bad, n)
		}
		if len(r.Weak) == 0 {
			continue
		}
		sum, err := pot.CheckPrices(r, pricesThrown(&d, r))
		if err != api.OK {
			t.Fatal(r, sum, err)
		}
		parts(upTo(len(r.Lots)), func(lots []int) {
			if back, err := pot.CheckLots(r, lots); err == api.OK && back < max(sum, n) {
				t.Fatal(r, lots, back, sum, n)
			}
		})
		if sum == n {
			tight++
		}
	}
	if tight < 50 {
		t.Error(tight)
	}
}

// TestApart is P6.10.
func TestApart(t *testing.T) {
	for _, r := range explainable(rows(t, 7, 600)) {
		_, fewest, apart, _ := lists(t, r)
		if len(fewest) != len(apart) {
			t.Fatal(r, fewest, apart)
		}
		parts(upTo(len(r.Lots)), func(lots []int) {
			if _, err := pot.CheckLots(r, lots); err == api.OK && len(lots) < len(apart) {
				t.Fatal(r, lots, apart)
			}
		})
	}
}

// TestCheckedApart compares CheckApart with the definition, for all lists of weak pots, and for lists with another pot (P6.6).
func TestCheckedApart(t *testing.T) {
	counts := map[api.Errno]int{}
	for _, r := range rows(t, 8, 150) {
		parts(r.Weak, func(pots []int) {
			want := api.OK
			if !areApart(r, pots) {
				want = api.ErrRule
			}
			if err := pot.CheckApart(r, pots); err != want {
				t.Fatal(r, pots, err)
			}
			counts[want]++
		})
		for p := -1; p <= r.Pots; p++ {
			want := api.OK
			if !slices.Contains(r.Weak, p) {
				want = api.ErrArg
			}
			if err := pot.CheckApart(r, indices(p)); err != want {
				t.Fatal(r, p, err)
			}
			counts[want]++
		}
	}
	if min(counts[api.OK], counts[api.ErrRule], counts[api.ErrArg]) < 500 {
		t.Error(counts)
	}
}

// TestUnknown is P6.11.
func TestUnknown(t *testing.T) {
	for _, r := range rows(t, 9, 1500) {
		pots, err := pot.Unknown(r)
		if err != api.OK {
			t.Fatal(r, pots, err)
		}
		if _, ok := least(t, r); ok != (len(pots) == 0) {
			t.Fatal(r, pots, ok)
		}
		// All lots together explain a row if any do.
		if _, err := pot.CheckLots(r, upTo(len(r.Lots))); (err == api.OK) != (len(pots) == 0) {
			t.Fatal(r, pots, err)
		}
	}
}

// TestTurned is P6.12.
func TestTurned(t *testing.T) {
	for _, r := range rows(t, 10, 400) {
		back := turned(r)
		parts(upTo(len(r.Lots)), func(lots []int) {
			n, err := pot.CheckLots(r, lots)
			if m, bad := pot.CheckLots(back, lots); n != m || err != bad {
				t.Fatal(r, lots, n, err, m, bad)
			}
		})
		n, ok := least(t, r)
		if m, can := least(t, back); n != m || ok != can {
			t.Fatal(r, n, ok, m, can)
		}
		if !ok {
			continue
		}
		lots, fewest, apart, blame := lists(t, r)
		lotsBack, fewestBack, apartBack, blameBack := lists(t, back)
		if !slices.Equal(lots, lotsBack) || len(fewest) != len(fewestBack) || len(apart) != len(apartBack) || !slices.Equal(blame, blameBack) {
			t.Fatal(r, lots, lotsBack, fewest, fewestBack, apart, apartBack, blame, blameBack)
		}
		prices, err := pot.Prices(back)
		slices.Reverse(prices)
		if sum, bad := pot.CheckPrices(r, prices); err != api.OK || bad != api.OK || sum != n {
			t.Fatal(r, prices, err, sum, bad)
		}
	}
}

// TestMore is P6.13 for one more weak pot, and one more lot.
func TestMore(t *testing.T) {
	d := dice.Dice(11)
	dearer, cheaper := 0, 0
	for _, r := range explainable(rows(t, 12, 1500)) {
		n, _ := least(t, r)
		if more, ok := withWeak(r, d.Below(r.Pots)); ok {
			m, can := least(t, more)
			if can && m < n {
				t.Fatal(r, more, n, m)
			}
			dearer += min(max(m-n, 0), 1)
		}
		for _, lot := range lotsThrown(&d, r.Pots, 3) {
			if more, ok := withLot(r, lot); ok {
				m, can := least(t, more)
				if !can || m > n {
					t.Fatal(r, more, n, m, can)
				}
				cheaper += min(n-m, 1)
			}
		}
	}
	if min(dearer, cheaper) < 50 {
		t.Error(dearer, cheaper)
	}
}

// TestBlamed is P6.13 for lots that are taken away, and P6.7.
func TestBlamed(t *testing.T) {
	counts := map[int]int{}
	for _, r := range explainable(rows(t, 13, 600)) {
		n, _ := least(t, r)
		lots, _, _, blame := lists(t, r)
		if len(blame) != len(r.Lots) {
			t.Fatal(r, blame)
		}
		for lot, when := range blame {
			m, can := least(t, without(r, lot))
			if (when == api.PotAlways) == (can && m == n) || can && m < n {
				t.Fatal(r, lot, when, n, m, can)
			}
			if in := slices.Contains(lots, lot); in && when == api.PotNever || !in && when == api.PotAlways {
				t.Fatal(r, lot, when, lots)
			}
			counts[when]++
		}
	}
	if min(counts[api.PotNever], counts[api.PotMay], counts[api.PotAlways]) < 100 || len(counts) != 3 {
		t.Error(counts)
	}
}

// TestPieces is P6.14.
func TestPieces(t *testing.T) {
	d := dice.Dice(14)
	good, bad := 0, 0
	for range 1500 {
		left, right := thrown(&d, 20, 5, 6), thrown(&d, 20, 5, 6)
		both, ok := joined(left, right)
		if !ok {
			t.Fatal(left, right)
		}
		one, canLeft := least(t, left)
		two, canRight := least(t, right)
		n, can := least(t, both)
		if can != (canLeft && canRight) || can && n != one+two {
			t.Fatal(left, right, one, two, n)
		}
		if !can {
			bad++
			continue
		}
		good++
		lots, fewest, apart, _ := lists(t, both)
		lotsLeft, fewestLeft, apartLeft, _ := lists(t, left)
		lotsRight, fewestRight, apartRight, _ := lists(t, right)
		for i := range lotsRight {
			lotsRight[i] += len(left.Lots)
		}
		if !slices.Equal(lots, slices.Concat(lotsLeft, lotsRight)) || len(fewest) != len(fewestLeft)+len(fewestRight) || len(apart) != len(apartLeft)+len(apartRight) {
			t.Fatal(left, right, lots, fewest, apart)
		}
	}
	if min(good, bad) < 200 {
		t.Error(good, bad)
	}
}

// TestFellowsTried compares Fellows with the definition (P6.8), and is P6.15.
func TestFellowsTried(t *testing.T) {
	for _, r := range rows(t, 15, 300) {
		apart, err := pot.Apart(r)
		if err != api.OK {
			t.Fatal(r, apart, err)
		}
		all := make([][]int, r.Pots)
		for p := range all {
			all[p] = fellows(t, r, p)
			if !slices.Equal(all[p], tryFellows(r, p)) {
				t.Fatal(r, p, all[p])
			}
		}
		for one := range all {
			for two := range all {
				with := slices.Contains(all[one], two)
				if with != slices.Contains(all[two], one) || with && one == two {
					t.Fatal(r, one, two)
				}
				if with && slices.Contains(apart, one) && slices.Contains(apart, two) {
					t.Fatal(r, one, two, apart)
				}
			}
		}
		compareFellows(t, r, all)
	}
}

// compareFellows checks that two weak pots are apart just if they are no fellows.
func compareFellows(t *testing.T, r api.PotRow, all [][]int) {
	t.Helper()
	for i, one := range r.Weak {
		for _, two := range r.Weak[i+1:] {
			want := api.OK
			if slices.Contains(all[one], two) {
				want = api.ErrRule
			}
			if err := pot.CheckApart(r, indices(one, two)); err != want {
				t.Fatal(r, one, two, err)
			}
		}
	}
}
