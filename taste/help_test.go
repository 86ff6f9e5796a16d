package taste_test

import (
	"senvy/api"
	"senvy/dice"
)

func to(lo, hi int64) api.Range { return api.Range{Lo: lo, Hi: hi} }

// sitting takes three numbers for each taste: its lot, and both ends of what is said.
func sitting(numbers ...int64) []api.TasteSaid {
	var out []api.TasteSaid
	for i := 0; i < len(numbers); i += 3 {
		out = append(out, api.TasteSaid{Lot: int(numbers[i]), Said: to(numbers[i+1], numbers[i+2])})
	}
	return out
}

func book(lo, hi int64, lots int, sittings ...[]api.TasteSaid) api.TasteBook {
	return api.TasteBook{Rate: to(lo, hi), Lots: lots, Sittings: sittings}
}

// bookA and bookB are the books A and B of the chapter.
func bookA() api.TasteBook { return book(1, 3, 2, sitting(0, 50, 52, 1, 40, 41, 0, 45, 47)) }
func bookB() api.TasteBook { return book(1, 3, 1, sitting(0, 50, 50, 0, 44, 45)) }

// same returns a sitting in which the same taste is there several times.
func same(times int, lot, lo, hi int64) []api.TasteSaid {
	var out []api.TasteSaid
	for range times {
		out = append(out, sitting(lot, lo, hi)...)
	}
	return out
}

// clone returns a book that shares no memory with another one.
func clone(b api.TasteBook) api.TasteBook {
	sittings := make([][]api.TasteSaid, len(b.Sittings))
	for i, s := range b.Sittings {
		sittings[i] = append([]api.TasteSaid(nil), s...)
	}
	b.Sittings = sittings
	return b
}

// place is a taste of a book, whether it is the first one of its sitting, and its number.
type place struct {
	api.TasteSaid
	first bool
}

// places returns all tastes of a book in their order.
func places(b api.TasteBook) []place {
	var out []place
	for _, s := range b.Sittings {
		for i, x := range s {
			out = append(out, place{x, i == 0})
		}
	}
	return out
}

// said limits a number to what a taste can say.
func said(n int64) int64 { return min(max(n, -api.MaxTasteSharp), api.MaxTasteSharp) }

// tastesNear throws a sitting of so many tastes, each said near lots that are as sharp as given: off by so much, and wider by so much.
func tastesNear(d *dice.Dice, b api.TasteBook, sharp []int64, tastes int, off, wide int64) []api.TasteSaid {
	var s []api.TasteSaid
	var tired int64
	for range tastes {
		lot := d.Below(b.Lots)
		n := sharp[lot] - tired + d.From(-off, off)
		s = append(s, api.TasteSaid{Lot: lot, Said: to(said(n-d.From(0, wide)), said(n+d.From(0, wide)))})
		tired += d.From(b.Rate.Lo, b.Rate.Hi)
	}
	return s
}

// small throws a book of at most five tastes whose truths can all be tried.
func small(d *dice.Dice) api.TasteBook {
	lo := d.From(0, 3)
	b := book(lo, lo+d.From(0, 2), 1+d.Below(3))
	base := []int64{0, 5, 500, 995, 1000}[d.Below(5)]
	var sharp []int64
	for range b.Lots {
		sharp = append(sharp, base+d.From(-2, 2))
	}
	for left := 5; left > 0 && len(b.Sittings) < 3; {
		s := tastesNear(d, b, sharp, 1+d.Below(left), 2, 2)
		b.Sittings = append(b.Sittings, s)
		left -= len(s) + d.Below(2)
	}
	return b
}

// large throws a book up to the limits of the chapter.
func large(d *dice.Dice) api.TasteBook {
	lo := d.From(0, api.MaxTasteRate)
	b := book(lo, d.From(lo, api.MaxTasteRate), 1+d.Below(api.MaxTasteLots))
	var sharp []int64
	for range b.Lots {
		sharp = append(sharp, d.From(0, api.MaxTasteSharp))
	}
	for left := api.MaxTastes; len(b.Sittings) < api.MaxTasteSittings && left > 0 && d.Below(6) > 0; {
		s := tastesNear(d, b, sharp, 1+d.Below(left), 3, 9)
		b.Sittings = append(b.Sittings, s)
		left -= len(s)
	}
	return b
}
