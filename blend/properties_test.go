package blend_test

import (
	"math/big"
	"slices"
	"testing"

	"senvy/api"
	"senvy/blend"
	"senvy/dice"
)

// errorOf returns the error that belongs to a price that may not be there.
func errorOf(price *big.Rat) api.Errno {
	if price == nil {
		return api.ErrBlend
	}
	return api.OK
}

// TestTried compares all that is told of lots with what trying all mixtures finds (P3.3, P3.4, P3.6, P3.7, P3.8).
func TestTried(t *testing.T) {
	d := dice.Dice(1)
	for _, l := range shelves(t, 2, 300) {
		for sharp := range int64(api.MaxBlendSharp + 1) {
			compareCheapest(t, l, sharp, tryMixtures(l, whole(sharp)))
			compareAtLeast(t, l, sharp, tryFrom(l, sharp))
			loss := d.From(1, api.MaxBlendSharp)
			want, bad := tryDays(l, sharp, loss)
			if days, err := blend.Last(l, sharp, loss); days != want || err != bad {
				t.Fatal(l, sharp, loss, days, err)
			}
		}
		if got, err := blend.Corners(l); !slices.Equal(got, tryCorners(l)) || err != api.OK {
			t.Fatal(l, got, err)
		}
		if got, err := blend.Idle(l); !slices.Equal(got, tryIdle(l)) || err != api.OK {
			t.Fatal(l, got, err)
		}
	}
}

// compareCheapest compares what Cheapest, Parts and Line tell with a price, if there is one.
func compareCheapest(t *testing.T, l []api.BlendLot, sharp int64, want *big.Rat) {
	t.Helper()
	if got := cheapest(t, l, sharp); !equal(got, want) {
		t.Fatal(l, sharp, got, want)
	}
	parts, err := blend.Parts(l, sharp)
	proof, bad := blend.Line(l, sharp)
	if err != errorOf(want) || bad != err {
		t.Fatal(l, sharp, parts, err, proof, bad)
	}
	if want == nil {
		if len(parts) > 0 || proof != line(0, 0, 0) {
			t.Fatal(l, sharp, parts, proof)
		}
		return
	}
	if len(parts) != len(l) || slices.Min(parts) < 0 || slices.Max(parts) > api.MaxBlendPart || mixedOf(parts) < 1 || mixedOf(parts) > 2 {
		t.Fatal(l, sharp, parts)
	}
	if s, price := averages(l, parts); s.Cmp(whole(sharp)) != 0 || price.Cmp(want) != 0 {
		t.Fatal(l, sharp, parts)
	}
	if !isLine(proof) || !liesBelow(l, proof) || height(proof, whole(sharp)).Cmp(want) != 0 {
		t.Fatal(l, sharp, proof)
	}
}

// compareAtLeast compares what AtLeast and Floor tell with a price, if there is one.
func compareAtLeast(t *testing.T, l []api.BlendLot, sharp int64, want *big.Rat) {
	t.Helper()
	if got := atLeast(t, l, sharp); !equal(got, want) {
		t.Fatal(l, sharp, got, want)
	}
	proof, err := blend.Floor(l, sharp)
	if err != errorOf(want) {
		t.Fatal(l, sharp, proof, err)
	}
	if want == nil {
		if proof != line(0, 0, 0) {
			t.Fatal(l, sharp, proof)
		}
		return
	}
	if !isLine(proof) || proof.Step < 0 || !liesBelow(l, proof) || height(proof, whole(sharp)).Cmp(want) != 0 {
		t.Fatal(l, sharp, proof)
	}
}

// TestLines compares CheckLine with the slow program (P3.5).
func TestLines(t *testing.T) {
	d := dice.Dice(3)
	counts := map[api.Errno]int{}
	for _, l := range shelves(t, 4, 300) {
		for range 30 {
			b := lineThrown(&d, l)
			b.Start += max(0, d.From(-3, 3))
			if d.Below(10) == 0 {
				b.Den = []int64{-1, 0, 1, 100, 101}[d.Below(5)]
			}
			sharp := d.From(0, api.MaxBlendSharp)
			want, bad := checkLine(l, b, sharp)
			if price, err := blend.CheckLine(l, b, sharp); price != want || err != bad {
				t.Fatal(l, b, sharp, price, err, want, bad)
			}
			counts[bad]++
		}
	}
	if len(counts) != 3 || min(counts[api.OK], counts[api.ErrRule], counts[api.ErrRange]) < 100 {
		t.Error(counts)
	}
}

// TestBlends compares CheckBlend with the averages of thrown blends (P3.2).
func TestBlends(t *testing.T) {
	d := dice.Dice(5)
	for _, l := range shelves(t, 6, 1000) {
		parts := blendThrown(&d, l)
		sharp, price := averages(l, parts)
		if gotSharp, gotPrice, err := blend.CheckBlend(l, parts); gotSharp != ratio(sharp) || gotPrice != ratio(price) || err != api.OK {
			t.Fatal(l, parts, gotSharp, gotPrice, err)
		}
	}
}

// TestProved is P3.9.
func TestProved(t *testing.T) {
	d := dice.Dice(7)
	proved := 0
	for _, l := range shelves(t, 8, 300) {
		b := lineThrown(&d, l)
		for range 20 {
			sharp, price := averages(l, blendThrown(&d, l))
			if height(b, sharp).Cmp(price) > 0 {
				t.Fatal(l, b, sharp, price)
			}
		}
		for sharp := range int64(api.MaxBlendSharp + 1) {
			bound, err := blend.CheckLine(l, b, sharp)
			if err != api.OK {
				t.Fatal(l, b, err)
			}
			price := cheapest(t, l, sharp)
			if price != nil && price.Cmp(rat(bound)) < 0 {
				t.Fatal(l, b, sharp, price)
			}
			least := atLeast(t, l, sharp)
			if b.Step >= 0 && least != nil && least.Cmp(rat(bound)) < 0 {
				t.Fatal(l, b, sharp, least)
			}
			if price != nil && price.Cmp(rat(bound)) == 0 {
				proved++
			}
		}
	}
	if proved < 50 {
		t.Error(proved)
	}
}

// TestNoBlendCheaper is P3.9, and that more than two lots are never needed: it tries all blends of few lots.
func TestNoBlendCheaper(t *testing.T) {
	reached := 0
	for _, l := range shelves(t, 9, 300) {
		if len(l) > 4 {
			continue
		}
		everyBlend(len(l), 5, func(parts []int64) {
			sharp, price, err := blend.CheckBlend(l, parts)
			if err != api.OK {
				t.Fatal(l, parts, err)
			}
			if sharp.Den != 1 {
				return
			}
			least := cheapest(t, l, sharp.Num)
			if least == nil || rat(price).Cmp(least) < 0 {
				t.Fatal(l, parts, sharp, price, least)
			}
			if rat(price).Cmp(least) == 0 {
				reached++
			}
			for below := range sharp.Num + 1 {
				if rat(price).Cmp(atLeast(t, l, below)) < 0 {
					t.Fatal(l, parts, sharp, price, below)
				}
			}
		})
	}
	if reached < 500 {
		t.Error(reached)
	}
}

// TestMixed is P3.10.
func TestMixed(t *testing.T) {
	for _, l := range shelves(t, 10, 60) {
		low, high := ends(l)
		for one := low; one <= high; one++ {
			for two := one; two <= high; two += 2 {
				both := new(big.Rat).Add(cheapest(t, l, one), cheapest(t, l, two))
				half := both.Mul(both, big.NewRat(1, 2))
				if middle := cheapest(t, l, (one+two)/2); middle.Cmp(half) > 0 {
					t.Fatal(l, one, two, middle, half)
				}
			}
		}
	}
}

// TestAtLeast is P3.11, and that AtLeast is some cheapest price, but no greater than any, also of a fraction.
func TestAtLeast(t *testing.T) {
	for _, l := range shelves(t, 11, 200) {
		_, high := ends(l)
		last := new(big.Rat)
		for sharp := range high + 1 {
			least := atLeast(t, l, sharp)
			if price := cheapest(t, l, sharp); price != nil && least.Cmp(price) > 0 || least.Cmp(last) < 0 {
				t.Fatal(l, sharp, least, price, last)
			}
			last = least
			for part := range int64(7) {
				at := big.NewRat(sharp*7+part*(high-sharp), 7)
				if price := tryMixtures(l, at); price != nil && price.Cmp(least) < 0 {
					t.Fatal(l, sharp, at, price, least)
				}
			}
			some := false
			for above := sharp; above <= high; above++ {
				some = some || equal(least, cheapest(t, l, above))
			}
			if !some {
				t.Fatal(l, sharp, least)
			}
		}
		if atLeast(t, l, high).Cmp(cheapest(t, l, high)) != 0 || high < api.MaxBlendSharp && atLeast(t, l, high+1) != nil {
			t.Fatal(l, high)
		}
	}
}

// TestIdle is P3.12.
func TestIdle(t *testing.T) {
	for _, l := range shelves(t, 12, 200) {
		idle, err := blend.Idle(l)
		corners, bad := blend.Corners(l)
		if err != api.OK || bad != api.OK || len(corners) == 0 {
			t.Fatal(l, idle, err, corners, bad)
		}
		for i, lot := range l {
			if !slices.Contains(idle, i) {
				if price := cheapest(t, l, lot.Sharp); price.Cmp(whole(lot.Price)) != 0 {
					t.Fatal(l, i, price)
				}
			} else if rest := slices.Delete(slices.Clone(l), i, i+1); !samePrices(t, l, rest) {
				t.Fatal(l, i)
			}
		}
		var bare []api.BlendLot
		for _, i := range corners {
			bare = append(bare, l[i])
		}
		if !samePrices(t, l, bare) {
			t.Fatal(l, corners)
		}
	}
}

// TestMore is P3.13.
func TestMore(t *testing.T) {
	d := dice.Dice(13)
	lower := 0
	for _, l := range shelves(t, 14, 200) {
		more := append(slices.Clone(l), api.BlendLot{Sharp: d.From(0, api.MaxBlendSharp), Price: d.From(0, api.MaxBlendPrice)})
		less := slices.Clone(l)
		lot := &less[d.Below(len(less))]
		lot.Price = d.From(0, lot.Price)
		for _, other := range [][]api.BlendLot{more, less} {
			if len(other) > api.MaxBlendLots {
				continue
			}
			for sharp := range int64(api.MaxBlendSharp + 1) {
				price := cheapest(t, l, sharp)
				then := cheapest(t, other, sharp)
				if price != nil && (then == nil || then.Cmp(price) > 0) {
					t.Fatal(l, other, sharp, price, then)
				}
				if price != nil && then.Cmp(price) < 0 {
					lower++
				}
			}
		}
	}
	if lower < 1000 {
		t.Error(lower)
	}
}

// TestMoved is P3.14.
func TestMoved(t *testing.T) {
	d := dice.Dice(15)
	compared := 0
	for _, l := range shelves(t, 16, 300) {
		by := d.From(1, 20)
		sharper := changed(l, func(lot *api.BlendLot) { lot.Sharp += by })
		dearer := changed(l, func(lot *api.BlendLot) { lot.Price += by })
		multiple := changed(l, func(lot *api.BlendLot) { lot.Price *= by })
		for sharp := range int64(api.MaxBlendSharp + 1) {
			price := cheapest(t, l, sharp)
			if blend.CheckLots(sharper) == api.OK && sharp+by <= api.MaxBlendSharp && !equal(cheapest(t, sharper, sharp+by), price) {
				t.Fatal(l, by, sharp)
			}
			if price == nil {
				continue
			}
			compared++
			if sum := new(big.Rat).Add(price, whole(by)); blend.CheckLots(dearer) == api.OK && !equal(cheapest(t, dearer, sharp), sum) {
				t.Fatal(l, by, sharp, sum)
			}
			if product := new(big.Rat).Mul(price, whole(by)); blend.CheckLots(multiple) == api.OK && !equal(cheapest(t, multiple, sharp), product) {
				t.Fatal(l, by, sharp, product)
			}
		}
	}
	if compared < 1000 {
		t.Error(compared)
	}
}

// TestTurned is P3.15.
func TestTurned(t *testing.T) {
	d := dice.Dice(17)
	for _, l := range shelves(t, 18, 200) {
		mixed, from := shuffled(&d, l)
		if !samePrices(t, l, mixed) {
			t.Fatal(l, mixed)
		}
		for sharp := range int64(api.MaxBlendSharp + 1) {
			if !equal(atLeast(t, l, sharp), atLeast(t, mixed, sharp)) {
				t.Fatal(l, mixed, sharp)
			}
		}
		turned := changed(l, func(lot *api.BlendLot) { lot.Sharp = api.MaxBlendSharp - lot.Sharp })
		for sharp := range int64(api.MaxBlendSharp + 1) {
			if !equal(cheapest(t, l, sharp), cheapest(t, turned, api.MaxBlendSharp-sharp)) {
				t.Fatal(l, turned, sharp)
			}
		}
		compareTurned(t, l, mixed, turned, from)
	}
}

// compareTurned checks that lots in another order, or turned, have the same corners and the same idle lots.
func compareTurned(t *testing.T, l, mixed, turned []api.BlendLot, from []int) {
	t.Helper()
	corners, _ := blend.Corners(l)
	there, _ := blend.Corners(mixed)
	back, _ := blend.Corners(turned)
	slices.Reverse(back)
	if !slices.Equal(back, corners) || len(there) != len(corners) {
		t.Fatal(l, mixed, turned, corners, there, back)
	}
	for i, corner := range there {
		if mixed[corner] != l[corners[i]] {
			t.Fatal(l, mixed, corners, there)
		}
	}
	idle, _ := blend.Idle(l)
	lazy, _ := blend.Idle(mixed)
	for i, lot := range lazy {
		lazy[i] = from[lot]
	}
	slices.Sort(lazy)
	if same, _ := blend.Idle(turned); !slices.Equal(same, idle) || !slices.Equal(lazy, idle) {
		t.Fatal(l, mixed, turned, idle, lazy, same)
	}
}

// TestLost is P3.16: it lets lots lose their sharpness, and looks what can still be had.
func TestLost(t *testing.T) {
	d := dice.Dice(19)
	compared := 0
	for _, l := range shelves(t, 20, 300) {
		_, high := ends(l)
		for range 20 {
			sharp, loss := d.From(0, high), d.From(1, 12)
			days, err := blend.Last(l, sharp, loss)
			if err != api.OK {
				t.Fatal(l, sharp, loss, err)
			}
			for _, day := range numbers(days, days+1) {
				old := changed(l, func(lot *api.BlendLot) { lot.Sharp -= day * loss })
				old = without(old, func(lot api.BlendLot) bool { return lot.Sharp < 0 })
				// Without a lot nothing can be had.
				if can := len(old) > 0 && atLeast(t, old, sharp) != nil; can != (day == days) {
					t.Fatal(l, sharp, loss, days, day, can)
				}
				compared++
			}
		}
	}
	if compared < 1000 {
		t.Error(compared)
	}
}
