package farm_test

import (
	"slices"
	"testing"

	"senvy/api"
	"senvy/dice"
	"senvy/farm"
)

func numbers(n ...int64) []int64  { return n }
func by(num, den int64) api.Ratio { return api.Ratio{Num: num, Den: den} }
func to(lo, hi int64) api.Range   { return api.Range{Lo: lo, Hi: hi} }

func year(price int64, clean ...int64) api.FarmYear {
	return api.FarmYear{Price: price, Clean: clean}
}

// rough takes two numbers for each farm.
func rough(price int64, ends ...int64) api.FarmRough {
	r := api.FarmRough{Price: price}
	for i := 0; i < len(ends); i += 2 {
		r.Clean = append(r.Clean, to(ends[i], ends[i+1]))
	}
	return r
}

// yearY and roughR are the years Y and R of the chapter.
func yearY() api.FarmYear   { return year(10, 53, 24, 23) }
func roughR() api.FarmRough { return rough(10, 50, 53, 20, 24, 23, 30) }

// largest and largestRough return years of which all is as great as it can be.
func largest() api.FarmYear {
	return year(api.MaxFarmPrice, slices.Repeat(numbers(api.MaxFarmClean), api.MaxFarms)...)
}

func largestRough() api.FarmRough {
	return rough(api.MaxFarmPrice, slices.Repeat(numbers(1, api.MaxFarmClean), api.MaxFarms)...)
}

// cloneYear and cloneRough return years that share no memory with others.
func cloneYear(y api.FarmYear) api.FarmYear {
	y.Clean = slices.Clone(y.Clean)
	return y
}

func cloneRough(r api.FarmRough) api.FarmRough {
	r.Clean = slices.Clone(r.Clean)
	return r
}

// with returns a year with another number for one farm.
func with(y api.FarmYear, index int, clean int64) api.FarmYear {
	y = cloneYear(y)
	y.Clean[index] = clean
	return y
}

// priced returns a year with another price.
func priced(y api.FarmYear, price int64) api.FarmYear {
	y.Price = price
	return y
}

// thrown throws a year with so many farms, and a price that is not above a number: what was clean is often as much, or nothing, or nearly all of it.
func thrown(d *dice.Dice, farms int, price int64) api.FarmYear {
	greatest := []int64{1, 3, 10, 30, api.MaxFarmClean}[d.Below(5)]
	y := year(d.From(0, []int64{4, 20, api.MaxFarmPrice}[d.Below(3)]))
	y.Price = min(y.Price, price)
	for range farms {
		y.Clean = append(y.Clean, max(0, d.From(-greatest/4, greatest)))
	}
	y.Clean[d.Below(farms)] = d.From(1, greatest)
	if d.Below(5) == 0 {
		y.Clean[d.Below(farms)] = api.MaxFarmClean
	}
	return y
}

// years throws so many years with at most so many farms and coins.
func years(t *testing.T, seed dice.Dice, n, farms int, price int64) []api.FarmYear {
	t.Helper()
	var all []api.FarmYear
	for range n {
		y := thrown(&seed, 1+seed.Below(farms), price)
		if err := farm.CheckYear(y); err != api.OK {
			t.Fatal(y, err)
		}
		all = append(all, y)
	}
	return all
}

// around throws bounds of what was clean in a year that are off by at most so much.
func around(d *dice.Dice, y api.FarmYear, off int64) api.FarmRough {
	r := rough(y.Price)
	for _, clean := range y.Clean {
		r.Clean = append(r.Clean, to(max(clean-d.From(0, off), 0), min(clean+d.From(0, off), api.MaxFarmClean)))
	}
	for i, clean := range y.Clean {
		if clean > 0 {
			r.Clean[i].Lo = max(r.Clean[i].Lo, 1)
		}
	}
	return r
}

// list returns what a function tells without an error.
func list(t *testing.T, of func(api.FarmYear) ([]int64, api.Errno), y api.FarmYear) []int64 {
	t.Helper()
	out, err := of(y)
	if err != api.OK {
		t.Fatal(y, out, err)
	}
	return out
}

// next returns what Next tells without an error.
func next(t *testing.T, y api.FarmYear) int {
	t.Helper()
	n, err := farm.Next(y)
	if err != api.OK {
		t.Fatal(y, n, err)
	}
	return n
}

// span returns what Span tells without an error.
func span(t *testing.T, r api.FarmRough, index int) api.Range {
	t.Helper()
	s, err := farm.Span(r, index)
	if err != api.OK {
		t.Fatal(r, index, s, err)
	}
	return s
}

// moved returns shares of which one coin, if there is any, went to some farm.
func moved(d *dice.Dice, shares []int64) []int64 {
	shares = slices.Clone(shares)
	var rich []int
	for i, share := range shares {
		if share > 0 {
			rich = append(rich, i)
		}
	}
	if len(rich) > 0 {
		shares[rich[d.Below(len(rich))]]--
		shares[d.Below(len(shares))]++
	}
	return shares
}
