package taste_test

import (
	"slices"

	"senvy/api"
)

// everyTired calls a function with each tiredness of all tastes that a book allows.
func everyTired(b api.TasteBook, visit func(tired []int64)) {
	all := places(b)
	tired := make([]int64, len(all))
	var fill func(k int)
	fill = func(k int) {
		switch {
		case k == len(all):
			visit(tired)
		case all[k].first:
			tired[k] = 0
			fill(k + 1)
		default:
			for step := b.Rate.Lo; step <= b.Rate.Hi; step++ {
				tired[k] = tired[k-1] + step
				fill(k + 1)
			}
		}
	}
	fill(0)
}

// box returns the sharpness that each lot can have with a tiredness of all tastes, if one taste (none if below 0) is not looked at.
func box(b api.TasteBook, tired []int64, skip int) ([]api.Range, bool) {
	out := slices.Repeat([]api.Range{to(0, 1000)}, b.Lots)
	ok := true
	for k, x := range places(b) {
		if k == skip {
			continue
		}
		r := &out[x.Lot]
		r.Lo = max(r.Lo, x.Said.Lo+tired[k])
		r.Hi = min(r.Hi, x.Said.Hi+tired[k])
		ok = ok && r.Lo <= r.Hi
	}
	return out, ok
}

// answer is what is found by trying all truths of a book.
type answer struct {
	truth        bool
	sharp, tired []api.Range
	seen         []map[int64]bool   // the sharpness of each lot in any truth
	apart        [][]map[int64]bool // the difference of each two lots in any truth
}

// hull returns the range from the least number to the greatest one.
func hull(seen map[int64]bool) api.Range {
	var r api.Range
	first := true
	for n := range seen {
		if first {
			r = to(n, n)
		}
		first = false
		r = to(min(r.Lo, n), max(r.Hi, n))
	}
	return r
}

func addAll(seen map[int64]bool, lo, hi int64) {
	for n := lo; n <= hi; n++ {
		seen[n] = true
	}
}

// try tries all truths of a small book.
func try(b api.TasteBook) answer {
	var a answer
	tired := make([]map[int64]bool, len(places(b)))
	for k := range tired {
		tired[k] = map[int64]bool{}
	}
	for range b.Lots {
		a.seen = append(a.seen, map[int64]bool{})
		var row []map[int64]bool
		for range b.Lots {
			row = append(row, map[int64]bool{})
		}
		a.apart = append(a.apart, row)
	}
	everyTired(b, func(t []int64) {
		lots, ok := box(b, t, -1)
		if !ok {
			return
		}
		a.truth = true
		for k, n := range t {
			tired[k][n] = true
		}
		for i, one := range lots {
			addAll(a.seen[i], one.Lo, one.Hi)
			for j, two := range lots {
				if i == j {
					a.apart[i][j][0] = true
				} else {
					addAll(a.apart[i][j], one.Lo-two.Hi, one.Hi-two.Lo)
				}
			}
		}
	})
	for _, s := range a.seen {
		a.sharp = append(a.sharp, hull(s))
	}
	for _, s := range tired {
		a.tired = append(a.tired, hull(s))
	}
	return a
}

// tryWrong tries for each taste whether there is a truth without what it says.
func tryWrong(b api.TasteBook) []int {
	var wrong []int
	for k := range places(b) {
		found := false
		everyTired(b, func(t []int64) {
			_, ok := box(b, t, k)
			found = found || ok
		})
		if found {
			wrong = append(wrong, k)
		}
	}
	return wrong
}

// isTruth tells whether numbers are a truth, straight from its definition.
func isTruth(b api.TasteBook, sharp, tired []int64) bool {
	all := places(b)
	if len(sharp) != b.Lots || len(tired) != len(all) {
		return false
	}
	for _, s := range sharp {
		if s < 0 || s > 1000 {
			return false
		}
	}
	for k, x := range all {
		if x.first && tired[k] != 0 {
			return false
		}
		if !x.first && (tired[k] < tired[k-1]+b.Rate.Lo || tired[k] > tired[k-1]+b.Rate.Hi) {
			return false
		}
		if said := sharp[x.Lot] - tired[k]; said < x.Said.Lo || said > x.Said.Hi {
			return false
		}
	}
	return true
}

// boundOf returns the bound from one name to another one, if there is one, straight from its definition.
func boundOf(b api.TasteBook, from, to int) (int64, bool) {
	all := places(b)
	lot := func(name int) bool { return name >= 1 && name <= b.Lots }
	taste := func(name int) bool { return name > b.Lots && name <= b.Lots+len(all) }
	of := func(name int) place { return all[name-b.Lots-1] }
	switch {
	case from == 0 && lot(to):
		return 1000, true
	case lot(from) && to == 0:
		return 0, true
	case from == 0 && taste(to) && of(to).first, taste(from) && of(from).first && to == 0:
		return 0, true
	case taste(from) && taste(to) && to == from+1 && !of(to).first:
		return b.Rate.Hi, true
	case taste(from) && taste(to) && to == from-1 && !of(from).first:
		return -b.Rate.Lo, true
	case taste(from) && lot(to) && of(from).Lot == to-1:
		return of(from).Said.Hi, true
	case lot(from) && taste(to) && of(to).Lot == from-1:
		return -of(to).Said.Lo, true
	}
	return 0, false
}

// checkRound does what CheckRound of a valid book has to do.
func checkRound(b api.TasteBook, round []int) (int64, api.Errno) {
	names := 1 + b.Lots + len(places(b))
	if len(round) == 0 {
		return 0, api.ErrMany
	}
	for i, name := range round {
		if name < 0 || name >= names || slices.Contains(round[:i], name) {
			return 0, api.ErrArg
		}
	}
	var sum int64
	for i, name := range round {
		by, ok := boundOf(b, name, append(round[i+1:len(round):len(round)], round[0])[0])
		if !ok {
			return 0, api.ErrRule
		}
		sum += by
	}
	if sum >= 0 {
		return 0, api.ErrSum
	}
	return -sum, api.OK
}
