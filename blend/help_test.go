package blend_test

import (
	"math/big"
	"slices"
	"testing"

	"senvy/api"
	"senvy/blend"
	"senvy/dice"
)

func numbers(n ...int64) []int64 { return n }
func indices(n ...int) []int     { return n }

func by(num, den int64) api.Ratio { return api.Ratio{Num: num, Den: den} }

func line(den, start, step int64) api.BlendLine {
	return api.BlendLine{Den: den, Start: start, Step: step}
}

// lots takes two numbers for each lot: its Sharp, and its Price.
func lots(n ...int64) []api.BlendLot {
	var out []api.BlendLot
	for i := 0; i < len(n); i += 2 {
		out = append(out, api.BlendLot{Sharp: n[i], Price: n[i+1]})
	}
	return out
}

// same returns so many equal lots.
func same(count int, sharp, price int64) []api.BlendLot {
	return lots(slices.Repeat(numbers(sharp, price), count)...)
}

// lotsA and lotsB are the lots A and B of the chapter.
func lotsA() []api.BlendLot { return lots(10, 30, 20, 35, 40, 90, 30, 50, 20, 60) }
func lotsB() []api.BlendLot { return lots(10, 50, 30, 20) }

// thrown throws lots of one of several sorts.
func thrown(d *dice.Dice) []api.BlendLot {
	var out []api.BlendLot
	sort, sharp, price, slope := d.Below(4), d.From(0, 97), d.From(0, 500), d.From(-4, 4)
	for range 1 + d.Below(api.MaxBlendLots) {
		lot := api.BlendLot{Sharp: d.From(0, api.MaxBlendSharp), Price: d.From(0, api.MaxBlendPrice)}
		switch sort {
		case 0: // close to one another, so that some are equal
			lot = api.BlendLot{Sharp: sharp + d.From(0, 3), Price: price + d.From(0, 3)}
		case 1: // along a bow, so that many are corners
			lot.Price = (lot.Sharp-sharp)*(lot.Sharp-sharp)/12 + d.From(0, 1)
		case 2: // along a line, so that many are between corners
			lot.Price = 400 + lot.Sharp*slope + int64(max(d.Below(6)-4, 0))
		}
		out = append(out, lot)
	}
	return out
}

// shelves throws so many valid lists of lots, among which are all that the tests need.
func shelves(t *testing.T, seed dice.Dice, n int) [][]api.BlendLot {
	t.Helper()
	var all [][]api.BlendLot
	equal, idle, between, cornered := 0, 0, 0, 0
	for range n {
		l := thrown(&seed)
		if err := blend.CheckLots(l); err != api.OK {
			t.Fatal(l, err)
		}
		distinct := map[api.BlendLot]bool{}
		for _, lot := range l {
			distinct[lot] = true
		}
		corners, lazy := tryCorners(l), tryIdle(l)
		equal += min(len(l)-len(distinct), 1)
		idle += min(len(lazy), 1)
		between += min(len(l)-len(corners)-len(lazy), 1)
		cornered += min(len(corners)/4, 1)
		all = append(all, l)
	}
	if least := min(equal, idle, between, cornered); least < n/20 {
		t.Fatal("too few of a sort:", equal, idle, between, cornered)
	}
	return all
}

// ends returns the least and the greatest Sharp of lots.
func ends(l []api.BlendLot) (int64, int64) {
	low, high := l[0].Sharp, l[0].Sharp
	for _, lot := range l {
		low, high = min(low, lot.Sharp), max(high, lot.Sharp)
	}
	return low, high
}

// rat returns a fraction of the math package, ratio the other way round.
func rat(r api.Ratio) *big.Rat { return big.NewRat(r.Num, r.Den) }

func ratio(r *big.Rat) api.Ratio {
	return by(r.Num().Int64(), r.Denom().Int64())
}

func whole(n int64) *big.Rat { return big.NewRat(n, 1) }

// cheapest returns what Cheapest tells of a sharpness, nothing if it cannot be had.
func cheapest(t *testing.T, l []api.BlendLot, sharp int64) *big.Rat {
	t.Helper()
	return told(t, l, sharp, blend.Cheapest)
}

// atLeast returns what AtLeast tells of a sharpness, nothing if it is too great.
func atLeast(t *testing.T, l []api.BlendLot, sharp int64) *big.Rat {
	t.Helper()
	return told(t, l, sharp, blend.AtLeast)
}

func told(t *testing.T, l []api.BlendLot, sharp int64, tell func([]api.BlendLot, int64) (api.Ratio, api.Errno)) *big.Rat {
	t.Helper()
	price, err := tell(l, sharp)
	switch {
	case err == api.OK && price.Den > 0 && ratio(rat(price)) == price:
		return rat(price)
	case err == api.ErrBlend && price == api.Ratio{}:
		return nil
	}
	t.Fatal(l, sharp, price, err)
	return nil
}

// equal tells whether two prices are the same, or neither is there.
func equal(one, two *big.Rat) bool {
	if one == nil || two == nil {
		return one == two
	}
	return one.Cmp(two) == 0
}

// samePrices tells whether all cheapest prices of two lists of lots are the same.
func samePrices(t *testing.T, one, two []api.BlendLot) bool {
	t.Helper()
	for sharp := range int64(api.MaxBlendSharp + 1) {
		if !equal(cheapest(t, one, sharp), cheapest(t, two, sharp)) {
			return false
		}
	}
	return true
}

// changed returns lots of which each is changed by a function.
func changed(l []api.BlendLot, change func(*api.BlendLot)) []api.BlendLot {
	out := slices.Clone(l)
	for i := range out {
		change(&out[i])
	}
	return out
}

// shuffled returns lots in another order, and where each of them was.
func shuffled(d *dice.Dice, l []api.BlendLot) ([]api.BlendLot, []int) {
	var out []api.BlendLot
	var from []int
	for i := range l {
		at := d.Below(len(out) + 1)
		out = slices.Insert(out, at, l[i])
		from = slices.Insert(from, at, i)
	}
	return out, from
}

// blendThrown throws a blend of lots.
func blendThrown(d *dice.Dice, l []api.BlendLot) []int64 {
	parts := make([]int64, len(l))
	for i := range parts {
		parts[i] = max(0, d.From(-5, 6))
		if d.Below(20) == 0 {
			parts[i] = d.From(0, api.MaxBlendPart)
		}
	}
	if slices.Max(parts) == 0 {
		parts[d.Below(len(l))] = 1
	}
	return parts
}

// lineThrown throws a line that lies below lots; often it touches one.
func lineThrown(d *dice.Dice, l []api.BlendLot) api.BlendLine {
	out := line(d.From(1, api.MaxBlendDen), 0, d.From(-3000, 3000))
	out.Start = api.MaxBlendLine
	for _, lot := range l {
		out.Start = min(out.Start, lot.Price*out.Den-lot.Sharp*out.Step)
	}
	out.Start -= max(0, d.From(-50, 50))
	return out
}
