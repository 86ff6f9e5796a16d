// Package taste is layer 1: it tells how sharp lots are by the tastes of a tongue that tires. See shared/doc/01-taste.md.
package taste

import "senvy/api"

// CheckBook reports whether a book is valid. (P1.1)
func CheckBook(b api.TasteBook) api.Errno {
	switch {
	case !valid(b.Rate, rates):
		return api.ErrRange
	case !countsFit(b):
		return api.ErrMany
	case !tastesFit(b):
		return api.ErrRange
	}
	return api.OK
}

// CheckTruth reports whether numbers are a truth. (P1.2)
func CheckTruth(b api.TasteBook, sharp, tired []int64) api.Errno {
	if err := CheckBook(b); err != api.OK {
		return err
	}
	t := tongue{b}
	switch {
	case len(sharp) != t.Lots || len(tired) != t.tastes():
		return api.ErrEqual
	case !t.allows(sharp, tired):
		return api.ErrTaste
	}
	return api.OK
}

// Least returns the least truth. (P1.3)
func Least(b api.TasteBook) ([]int64, []int64, api.Errno) {
	return truth(b, func(r api.Range) int64 { return r.Lo })
}

// Greatest returns the greatest truth. (P1.3)
func Greatest(b api.TasteBook) ([]int64, []int64, api.Errno) {
	return truth(b, func(r api.Range) int64 { return r.Hi })
}

// truth returns the end of the range of each lot and of each taste that the function end picks.
func truth(b api.TasteBook, end func(api.Range) int64) ([]int64, []int64, api.Errno) {
	if err := CheckBook(b); err != api.OK {
		return nil, nil, err
	}
	t := tongue{b}
	tight := t.net().tighten()
	if tight == none() {
		return nil, nil, api.ErrTaste
	}
	sharp := make([]int64, t.Lots)
	for lot := range sharp {
		sharp[lot] = end(tight.apart(t.lotName(lot), zeroName))
	}
	tired := make([]int64, t.tastes())
	for taste := range tired {
		tired[taste] = end(tight.apart(t.tasteName(taste), zeroName))
	}
	return sharp, tired, api.OK
}

// Span returns the least and the greatest sharpness of a lot. (P1.4)
func Span(b api.TasteBook, lot int) (api.Range, api.Errno) {
	if err := checkLots(b, lot); err != api.OK {
		return api.Range{}, err
	}
	t := tongue{b}
	return t.apart(t.lotName(lot), zeroName)
}

// Apart returns how far two lots are apart at least and at most. (P1.4)
func Apart(b api.TasteBook, one, two int) (api.Range, api.Errno) {
	if err := checkLots(b, one, two); err != api.OK {
		return api.Range{}, err
	}
	t := tongue{b}
	return t.apart(t.lotName(one), t.lotName(two))
}

// CheckRound returns by how much a round proves that there is no truth. (P1.5)
func CheckRound(b api.TasteBook, round []int) (int64, api.Errno) {
	if err := CheckBook(b); err != api.OK {
		return 0, err
	}
	t := tongue{b}
	n := t.net()
	switch {
	case len(round) == 0:
		return 0, api.ErrMany
	case !t.different(round):
		return 0, api.ErrArg
	case !n.joins(round):
		return 0, api.ErrRule
	case n.proof(round) <= 0:
		return 0, api.ErrSum
	}
	return n.proof(round), api.OK
}

// Round returns a round that proves that there is no truth. (P1.5)
func Round(b api.TasteBook) ([]int, api.Errno) {
	if err := CheckBook(b); err != api.OK {
		return nil, err
	}
	t := tongue{b}
	found := t.rounds()
	if len(found) == 0 {
		return nil, api.ErrNone
	}
	return best(found, t.net().proof), api.OK
}

// Wrong returns the tastes one of which can be wrong. (P1.6)
func Wrong(b api.TasteBook) ([]int, api.Errno) {
	if err := CheckBook(b); err != api.OK {
		return nil, err
	}
	t := tongue{b}
	var wrong []int
	for taste := range t.tastes() {
		n := t.net()
		for lot := range t.Lots {
			n.unlink(pair{t.tasteName(taste), t.lotName(lot)})
		}
		if n.tighten() != none() {
			wrong = append(wrong, taste)
		}
	}
	return wrong, api.OK
}
