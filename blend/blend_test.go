package blend_test

import (
	"math"
	"slices"
	"testing"

	"senvy/api"
	"senvy/blend"
)

// lotsCase is lots and what CheckLots has to return.
type lotsCase struct {
	name string
	l    []api.BlendLot
	err  api.Errno
}

func lotsCases() []lotsCase {
	return []lotsCase{
		{"A", lotsA(), api.OK},
		{"B", lotsB(), api.OK},
		{"the least one", lots(0, 0), api.OK},
		{"the greatest ones", same(8, 100, 1000), api.OK},
		{"one lot", same(1, 50, 7), api.OK},
		{"eight lots", lots(0, 1000, 100, 0, 1, 1, 2, 2, 3, 3, 4, 4, 5, 5, 6, 6), api.OK},

		{"no lot", nil, api.ErrMany},
		{"an empty list", []api.BlendLot{}, api.ErrMany},
		{"nine lots", same(9, 50, 7), api.ErrMany},
		{"hundred lots", same(100, 50, 7), api.ErrMany},

		{"sharpness below 0", lots(-1, 0), api.ErrRange},
		{"sharpness far below 0", lots(math.MinInt64, 0), api.ErrRange},
		{"sharpness above 100", lots(101, 0), api.ErrRange},
		{"sharpness far above 100", lots(math.MaxInt64, 0), api.ErrRange},
		{"price below 0", lots(0, -1), api.ErrRange},
		{"price far below 0", lots(0, math.MinInt64), api.ErrRange},
		{"price above 1000", lots(0, 1001), api.ErrRange},
		{"price far above 1000", lots(0, math.MaxInt64), api.ErrRange},
		{"the first one of several", lots(0, 1001, 0, 0, 0, 0), api.ErrRange},
		{"the last one of several", lots(0, 0, 0, 0, 101, 0), api.ErrRange},

		{"too many before all others", same(9, -1, 1001), api.ErrMany},
	}
}

// TestCheckLots is P3.1.
func TestCheckLots(t *testing.T) {
	for _, c := range lotsCases() {
		if err := blend.CheckLots(c.l); err != c.err {
			t.Errorf("%s: %v, not %v", c.name, err, c.err)
		}
	}
}

// withSharp calls all functions that take a sharpness, and tells for each one its error, and whether it told something beside it.
func withSharp(l []api.BlendLot, b api.BlendLine, sharp, loss int64, visit func(call string, some bool, err api.Errno)) {
	price, err := blend.Cheapest(l, sharp)
	visit("Cheapest", price != api.Ratio{}, err)
	parts, err := blend.Parts(l, sharp)
	visit("Parts", len(parts) > 0, err)
	price, err = blend.AtLeast(l, sharp)
	visit("AtLeast", price != api.Ratio{}, err)
	price, err = blend.CheckLine(l, b, sharp)
	visit("CheckLine", price != api.Ratio{}, err)
	proof, err := blend.Line(l, sharp)
	visit("Line", proof != api.BlendLine{}, err)
	proof, err = blend.Floor(l, sharp)
	visit("Floor", proof != api.BlendLine{}, err)
	days, err := blend.Last(l, sharp, loss)
	visit("Last", days != 0, err)
}

// TestLotsFirst checks that the error of the lots comes before all others, and that nothing is told with it.
func TestLotsFirst(t *testing.T) {
	for _, c := range lotsCases() {
		if c.err == api.OK {
			continue
		}
		check := func(call string, some bool, err api.Errno) {
			if some || err != c.err {
				t.Errorf("%s: %s: %v, not %v, or a result beside it", c.name, call, err, c.err)
			}
		}
		for _, sharp := range numbers(-1, 0, 50, 101) {
			withSharp(c.l, line(1, 0, 0), sharp, 1, check)
			withSharp(c.l, line(0, 0, 0), sharp, 0, check)
		}
		for _, parts := range [][]int64{nil, {-1}, make([]int64, len(c.l)), slices.Repeat(numbers(1), len(c.l))} {
			sharp, price, err := blend.CheckBlend(c.l, parts)
			check("CheckBlend", sharp != api.Ratio{} || price != api.Ratio{}, err)
		}
		corners, err := blend.Corners(c.l)
		check("Corners", len(corners) > 0, err)
		idle, err := blend.Idle(c.l)
		check("Idle", len(idle) > 0, err)
	}
}

// TestSharpNext checks that the error of a sharpness comes next, before those of lines and losses.
func TestSharpNext(t *testing.T) {
	for _, l := range [][]api.BlendLot{lotsA(), lotsB(), lots(0, 0), lots(100, 0)} {
		for _, sharp := range numbers(-1, 101, math.MinInt64, math.MaxInt64) {
			check := func(call string, some bool, err api.Errno) {
				if some || err != api.ErrRange {
					t.Error(l, sharp, call, err)
				}
			}
			withSharp(l, line(1, 0, 0), sharp, 1, check)
			// This line does not lie below any lots.
			withSharp(l, line(1, 2000, 0), sharp, 0, check)
		}
	}
}

// TestCheckBlend is P3.2.
func TestCheckBlend(t *testing.T) {
	none := api.Ratio{}
	for i, c := range []struct {
		l            []api.BlendLot
		parts        []int64
		sharp, price api.Ratio
		err          api.Errno
	}{
		{lotsA(), numbers(0, 1, 0, 1, 0), by(25, 1), by(85, 2), api.OK},
		{lotsA(), numbers(1, 0, 0, 0, 2), by(50, 3), by(50, 1), api.OK},
		{lotsA(), numbers(1, 1, 1, 1, 1), by(24, 1), by(53, 1), api.OK},
		{lotsA(), numbers(0, 0, 0, 1, 0), by(30, 1), by(50, 1), api.OK},
		{lotsA(), numbers(0, 0, 0, 1000, 0), by(30, 1), by(50, 1), api.OK},
		{lotsA(), numbers(999, 1000, 0, 0, 0), by(29990, 1999), by(64970, 1999), api.OK},
		{lotsB(), numbers(1, 1000), by(30010, 1001), by(20050, 1001), api.OK},
		{lots(0, 0), numbers(7), by(0, 1), by(0, 1), api.OK},
		{lots(0, 0, 0, 9), numbers(2, 1), by(0, 1), by(3, 1), api.OK},
		{same(8, 100, 1000), slices.Repeat(numbers(1000), 8), by(100, 1), by(1000, 1), api.OK},

		{lotsA(), numbers(1, 1), none, none, api.ErrEqual},
		{lotsA(), numbers(1, 1, 1, 1, 1, 1), none, none, api.ErrEqual},
		{lotsA(), nil, none, none, api.ErrEqual},
		{lotsA(), numbers(), none, none, api.ErrEqual},
		{lotsA(), numbers(0, 0, 0, 0, 1001), none, none, api.ErrRange},
		{lotsA(), numbers(-1, 0, 0, 0, 2), none, none, api.ErrRange},
		{lotsA(), numbers(0, 0, math.MaxInt64, 0, 0), none, none, api.ErrRange},
		{lotsA(), numbers(0, 0, math.MinInt64, 0, 1), none, none, api.ErrRange},
		{lotsA(), numbers(0, 0, 0, 0, 0), none, none, api.ErrMany},
		{lots(0, 0), numbers(0), none, none, api.ErrMany},

		// Several errors at once.
		{lotsA(), numbers(-1, 0), none, none, api.ErrEqual},
		{lotsA(), numbers(0, 0), none, none, api.ErrEqual},
		{lotsA(), numbers(0, 0, 0, 0, -1), none, none, api.ErrRange},
		{lotsA(), numbers(1, -1, 0, 0, 0), none, none, api.ErrRange},
	} {
		if sharp, price, err := blend.CheckBlend(c.l, c.parts); sharp != c.sharp || price != c.price || err != c.err {
			t.Error(i, sharp, price, err)
		}
	}
}

// priceCase is lots, a sharpness, and its prices with their errors.
type priceCase struct {
	l               []api.BlendLot
	sharp           int64
	cheapest, least api.Ratio
	errs            [2]api.Errno
}

func priceCases() []priceCase {
	none := api.Ratio{}
	fine := [2]api.Errno{}
	little := [2]api.Errno{api.ErrBlend, api.OK}
	much := [2]api.Errno{api.ErrBlend, api.ErrBlend}
	return []priceCase{
		{lotsA(), 25, by(85, 2), by(85, 2), fine},
		{lotsA(), 10, by(30, 1), by(30, 1), fine},
		{lotsA(), 15, by(65, 2), by(65, 2), fine},
		{lotsA(), 20, by(35, 1), by(35, 1), fine},
		{lotsA(), 33, by(62, 1), by(62, 1), fine},
		{lotsA(), 40, by(90, 1), by(90, 1), fine},
		{lotsA(), 9, none, by(30, 1), little},
		{lotsA(), 0, none, by(30, 1), little},
		{lotsA(), 41, none, none, much},
		{lotsA(), 45, none, none, much},
		{lotsA(), 100, none, none, much},

		// What is sharper can be cheaper.
		{lotsB(), 15, by(85, 2), by(20, 1), fine},
		{lotsB(), 10, by(50, 1), by(20, 1), fine},
		{lotsB(), 30, by(20, 1), by(20, 1), fine},
		{lotsB(), 9, none, by(20, 1), little},
		{lotsB(), 31, none, none, much},
		{lots(0, 9, 10, 2, 20, 2, 30, 8), 5, by(11, 2), by(2, 1), fine},
		{lots(0, 9, 10, 2, 20, 2, 30, 8), 15, by(2, 1), by(2, 1), fine},
		{lots(0, 9, 10, 2, 20, 2, 30, 8), 21, by(13, 5), by(13, 5), fine},
		{lots(0, 9, 10, 2, 30, 8, 20, 3), 11, by(21, 10), by(21, 10), fine},

		// One sharpness only; of equally sharp lots the cheapest one.
		{lots(50, 7), 50, by(7, 1), by(7, 1), fine},
		{lots(50, 7), 49, none, by(7, 1), little},
		{lots(50, 7), 51, none, none, much},
		{lots(50, 7, 50, 3, 50, 9), 50, by(3, 1), by(3, 1), fine},
		{lots(50, 7, 50, 3, 50, 9), 0, none, by(3, 1), little},
		{lots(0, 0), 0, by(0, 1), by(0, 1), fine},
		{lots(0, 0), 1, none, none, much},
		{lots(100, 0), 100, by(0, 1), by(0, 1), fine},

		// The cheapest lot costs nothing, from the one end to the other.
		{lots(0, 1000, 100, 0), 0, by(1000, 1), by(0, 1), fine},
		{lots(0, 1000, 100, 0), 99, by(10, 1), by(0, 1), fine},
		{lots(0, 0, 100, 1000), 100, by(1000, 1), by(1000, 1), fine},
		{lots(0, 0, 100, 1), 99, by(99, 100), by(99, 100), fine},
		{lots(0, 0, 97, 1000), 96, by(96000, 97), by(96000, 97), fine},
		{lots(0, 10, 10, 20, 20, 30, 30, 40), 17, by(27, 1), by(27, 1), fine},
	}
}

// TestPrices is P3.3, P3.4 and P3.6.
func TestPrices(t *testing.T) {
	for i, c := range priceCases() {
		if got, err := blend.Cheapest(c.l, c.sharp); got != c.cheapest || err != c.errs[0] {
			t.Error(i, "cheapest", got, err)
		}
		if got, err := blend.AtLeast(c.l, c.sharp); got != c.least || err != c.errs[1] {
			t.Error(i, "at least", got, err)
		}
		parts, err := blend.Parts(c.l, c.sharp)
		if err != c.errs[0] || err != api.OK && len(parts) > 0 {
			t.Error(i, "parts", parts, err)
		}
		if sharp, price, bad := blend.CheckBlend(c.l, parts); err == api.OK && (sharp != by(c.sharp, 1) || price != c.cheapest || bad != api.OK || mixedOf(parts) > 2) {
			t.Error(i, "parts", parts, sharp, price, bad)
		}
		proof, err := blend.Line(c.l, c.sharp)
		if err != c.errs[0] || err != api.OK && proof != line(0, 0, 0) {
			t.Error(i, "line", proof, err)
		}
		if price, bad := blend.CheckLine(c.l, proof, c.sharp); err == api.OK && (price != c.cheapest || bad != api.OK) {
			t.Error(i, "line", proof, price, bad)
		}
		proof, err = blend.Floor(c.l, c.sharp)
		if err != c.errs[1] || err != api.OK && proof != line(0, 0, 0) {
			t.Error(i, "floor", proof, err)
		}
		if price, bad := blend.CheckLine(c.l, proof, c.sharp); err == api.OK && (price != c.least || bad != api.OK || proof.Step < 0) {
			t.Error(i, "floor", proof, price, bad)
		}
	}
}

// mixedOf tells of how many lots a blend has parts.
func mixedOf(parts []int64) int {
	count := 0
	for _, part := range parts {
		if part != 0 {
			count++
		}
	}
	return count
}

// TestCheckLine is P3.5.
func TestCheckLine(t *testing.T) {
	const most = 1 << 20
	none := api.Ratio{}
	for i, c := range []struct {
		l     []api.BlendLot
		b     api.BlendLine
		sharp int64
		price api.Ratio
		err   api.Errno
	}{
		{lotsA(), line(2, 10, 3), 25, by(85, 2), api.OK},
		{lotsA(), line(2, 10, 3), 0, by(5, 1), api.OK},
		{lotsA(), line(2, 10, 3), 100, by(155, 1), api.OK},
		{lotsA(), line(4, 20, 6), 25, by(85, 2), api.OK},
		{lotsA(), line(1, 30, 0), 100, by(30, 1), api.OK},
		{lotsA(), line(1, 0, 0), 7, by(0, 1), api.OK},
		{lotsA(), line(7, 0, 0), 7, by(0, 1), api.OK},
		{lotsA(), line(3, -6, 1), 7, by(1, 3), api.OK},
		{lotsA(), line(6, -6, 1), 2, by(-2, 3), api.OK},
		{lotsA(), line(7, -14, 1), 7, by(-1, 1), api.OK},
		{lotsA(), line(100, -most, 0), 0, by(-262144, 25), api.OK},
		{lotsA(), line(100, -most, -most), 100, by(-26476544, 25), api.OK},
		{lotsB(), line(2, 130, -3), 15, by(85, 2), api.OK},
		{lotsB(), line(2, 130, -3), 100, by(-85, 1), api.OK},
		{lots(0, 0), line(1, 0, most), 100, by(100*most, 1), api.OK},
		{lots(0, 5), line(100, 500, most), 1, by(262269, 25), api.OK},
		{lots(100, 0), line(1, most, -most), 1, by(0, 1), api.OK},

		// Above one lot: the first one, the last one, one that is idle, by the least bit.
		{lotsA(), line(1, 0, 2), 25, none, api.ErrRule},
		{lotsA(), line(2, 11, 3), 25, none, api.ErrRule},
		{lotsA(), line(1, 31, 0), 25, none, api.ErrRule},
		{lotsA(), line(1, -55, 4), 0, none, api.ErrRule},
		{lotsA(), line(100, -2999, 300), 0, none, api.ErrRule},
		{lotsB(), line(100, 2001, 0), 15, none, api.ErrRule},
		{lotsB(), line(100, 2000, 0), 15, by(20, 1), api.OK},
		{lots(0, 5), line(100, 501, -most), 100, none, api.ErrRule},
		{lots(0, 0), line(1, 1, 0), 0, none, api.ErrRule},

		{lotsA(), line(0, 0, 0), 25, none, api.ErrRange},
		{lotsA(), line(-1, 0, 0), 25, none, api.ErrRange},
		{lotsA(), line(101, 0, 0), 25, none, api.ErrRange},
		{lotsA(), line(math.MaxInt64, 0, 0), 25, none, api.ErrRange},
		{lotsA(), line(math.MinInt64, 0, 0), 25, none, api.ErrRange},
		{lotsA(), line(1, -most-1, 0), 25, none, api.ErrRange},
		{lotsA(), line(1, most+1, -most), 25, none, api.ErrRange},
		{lotsA(), line(1, math.MinInt64, 0), 25, none, api.ErrRange},
		{lotsA(), line(1, 0, -most-1), 25, none, api.ErrRange},
		{lots(0, 0), line(1, 0, most+1), 25, none, api.ErrRange},
		{lotsA(), line(1, 0, math.MinInt64), 25, none, api.ErrRange},

		// Several errors at once.
		{lotsA(), line(0, 2000, 0), 25, none, api.ErrRange},
		{lotsA(), line(1, 2000, most+1), 25, none, api.ErrRange},
		{lotsA(), line(1, 2000, 0), 101, none, api.ErrRange},
	} {
		if price, err := blend.CheckLine(c.l, c.b, c.sharp); price != c.price || err != c.err {
			t.Error(i, price, err)
		}
	}
}

// TestCorners is P3.7.
func TestCorners(t *testing.T) {
	for i, c := range []struct {
		l             []api.BlendLot
		corners, idle []int
	}{
		{lotsA(), indices(0, 1, 3, 2), indices(4)},
		{lotsB(), indices(0, 1), nil},
		{lots(50, 7), indices(0), nil},

		// Of equal lots the first one; of equally sharp ones the cheapest one.
		{same(8, 0, 0), indices(0), nil},
		{lots(50, 7, 50, 3, 50, 9, 50, 3), indices(1), indices(0, 2)},
		{lots(30, 40, 20, 31, 10, 20, 0, 10, 0, 10), indices(3, 0), indices(1)},
		{lots(9, 9, 9, 8, 0, 4, 0, 4, 0, 3), indices(4, 1), indices(0, 2, 3)},
		{lots(9, 8, 9, 8, 0, 4, 0, 4), indices(2, 0), nil},

		// On the line between two corners a lot is neither a corner nor idle, however many there are.
		{lots(0, 10, 10, 20, 20, 30, 30, 40), indices(0, 3), nil},
		{lots(0, 10, 10, 20, 20, 30, 30, 41), indices(0, 2, 3), nil},
		{lots(0, 10, 10, 20, 20, 31, 30, 40), indices(0, 3), indices(2)},
		{lots(10, 5, 0, 5, 20, 5, 10, 5), indices(1, 2), nil},
		{lots(0, 9, 10, 2, 20, 2, 30, 8), indices(0, 1, 2, 3), nil},
		{lots(0, 9, 30, 9, 10, 3, 20, 3, 15, 3), indices(0, 2, 3, 1), nil},
		{lots(0, 5, 50, 1000, 100, 5, 100, 6), indices(0, 2), indices(1, 3)},

		// A late one makes several of those before it idle.
		{lots(0, 100, 10, 95, 20, 91, 30, 88, 40, 0), indices(0, 4), indices(1, 2, 3)},
		{lots(40, 100, 30, 95, 20, 91, 10, 88, 0, 0), indices(4, 0), indices(1, 2, 3)},
		{lots(0, 64, 1, 49, 2, 36, 3, 25, 4, 16, 5, 9, 6, 4, 7, 1), indices(0, 1, 2, 3, 4, 5, 6, 7), nil},
		{lots(0, 0, 100, 1000, 99, 990, 1, 10, 98, 981), indices(0, 1), indices(4)},
	} {
		if got, err := blend.Corners(c.l); !slices.Equal(got, c.corners) || err != api.OK {
			t.Error(i, "corners", got, err)
		}
		if got, err := blend.Idle(c.l); !slices.Equal(got, c.idle) || err != api.OK {
			t.Error(i, "idle", got, err)
		}
		if !slices.Equal(tryCorners(c.l), c.corners) || !slices.Equal(tryIdle(c.l), c.idle) {
			t.Error(i, "the slow program", tryCorners(c.l), tryIdle(c.l))
		}
	}
}

// TestLast is P3.8.
func TestLast(t *testing.T) {
	for i, c := range []struct {
		l           []api.BlendLot
		sharp, loss int64
		days        int64
		err         api.Errno
	}{
		{lotsA(), 25, 4, 3, api.OK},
		{lotsA(), 25, 5, 3, api.OK},
		{lotsA(), 25, 15, 1, api.OK},
		{lotsA(), 25, 16, 0, api.OK},
		{lotsA(), 40, 1, 0, api.OK},
		{lotsA(), 39, 1, 1, api.OK},
		{lotsA(), 0, 1, 40, api.OK},
		{lotsA(), 0, 100, 0, api.OK},
		{lots(100, 5, 0, 0), 0, 1, 100, api.OK},
		{lots(100, 5, 0, 0), 0, 100, 1, api.OK},
		{lots(0, 0), 0, 1, 0, api.OK},
		// The sharpest lot counts also if it is not the last one, or there are dearer ones.
		{lots(90, 1000, 70, 1, 90, 2), 60, 7, 4, api.OK},

		{lotsA(), 41, 1, 0, api.ErrBlend},
		{lotsA(), 100, 100, 0, api.ErrBlend},
		{lotsA(), 25, 0, 0, api.ErrRange},
		{lotsA(), 25, -1, 0, api.ErrRange},
		{lotsA(), 25, 101, 0, api.ErrRange},
		{lotsA(), 25, math.MinInt64, 0, api.ErrRange},
		{lotsA(), 25, math.MaxInt64, 0, api.ErrRange},

		// Several errors at once.
		{lotsA(), 41, 0, 0, api.ErrRange},
		{lotsA(), 41, 101, 0, api.ErrRange},
		{lotsA(), -1, 1, 0, api.ErrRange},
	} {
		if days, err := blend.Last(c.l, c.sharp, c.loss); days != c.days || err != c.err {
			t.Error(i, days, err)
		}
	}
}
