package taste_test

import (
	"slices"
	"testing"

	"senvy/api"
	"senvy/dice"
	"senvy/taste"
)

// smalls returns small books with what trying all their truths finds; about half of them have a truth.
func smalls(t *testing.T, n int) ([]api.TasteBook, []answer) {
	t.Helper()
	d := dice.Dice(1)
	var books []api.TasteBook
	var answers []answer
	truths := 0
	for range n {
		b := small(&d)
		if err := taste.CheckBook(b); err != api.OK {
			t.Fatal(b, err)
		}
		a := try(b)
		if a.truth {
			truths++
		}
		books, answers = append(books, b), append(answers, a)
	}
	if truths < n/5 || truths > n*4/5 {
		t.Fatalf("of %d books %d have a truth", n, truths)
	}
	return books, answers
}

func larges(t *testing.T, n int) []api.TasteBook {
	t.Helper()
	d := dice.Dice(2)
	var books []api.TasteBook
	truths := 0
	for range n {
		b := large(&d)
		if err := taste.CheckBook(b); err != api.OK {
			t.Fatal(b, err)
		}
		if _, _, err := taste.Least(b); err == api.OK {
			truths++
		}
		books = append(books, b)
	}
	if truths < n/10 || truths > n*9/10 {
		t.Fatalf("of %d books %d have a truth", n, truths)
	}
	return books
}

func spans(t *testing.T, b api.TasteBook) []api.Range {
	t.Helper()
	var out []api.Range
	for lot := range b.Lots {
		r, err := taste.Span(b, lot)
		if err != api.OK {
			t.Fatal(b, lot, err)
		}
		out = append(out, r)
	}
	return out
}

func hasTruth(b api.TasteBook) bool {
	_, _, err := taste.Least(b)
	return err == api.OK
}

func inside(narrow, wide api.Range) bool { return wide.Lo <= narrow.Lo && narrow.Hi <= wide.Hi }

// TestTried compares all that is told of small books with what trying all truths finds (P1.3, P1.4, P1.6, P1.8).
func TestTried(t *testing.T) {
	books, answers := smalls(t, 1500)
	for i, b := range books {
		a := answers[i]
		sharp, tired, err := taste.Least(b)
		sharp2, tired2, bad := taste.Greatest(b)
		if !a.truth {
			if err != api.ErrTaste || bad != api.ErrTaste || len(sharp)+len(tired)+len(sharp2)+len(tired2) > 0 {
				t.Fatal(b, err, bad)
			}
		} else if err != api.OK || bad != api.OK || len(sharp) != b.Lots || len(sharp2) != b.Lots || len(tired) != len(a.tired) || len(tired2) != len(a.tired) {
			t.Fatal(b, err, bad)
		}
		for k, r := range a.tired {
			if a.truth && to(tired[k], tired2[k]) != r {
				t.Fatal(b, k, tired, tired2, r)
			}
		}
		for one := range b.Lots {
			if a.truth && to(sharp[one], sharp2[one]) != a.sharp[one] {
				t.Fatal(b, one, sharp, sharp2, a.sharp)
			}
			checkSeen(t, b, a.truth, a.seen[one], func() (api.Range, api.Errno) { return taste.Span(b, one) })
			for two := range b.Lots {
				checkSeen(t, b, a.truth, a.apart[one][two], func() (api.Range, api.Errno) { return taste.Apart(b, one, two) })
			}
		}
		if wrong, err := taste.Wrong(b); !slices.Equal(wrong, tryWrong(b)) || err != api.OK {
			t.Fatal(b, wrong, err)
		}
	}
}

// checkSeen checks that a range is all the numbers that were seen, and no other one.
func checkSeen(t *testing.T, b api.TasteBook, truth bool, seen map[int64]bool, tell func() (api.Range, api.Errno)) {
	t.Helper()
	r, err := tell()
	if !truth {
		if err != api.ErrTaste || r != to(0, 0) {
			t.Fatal(b, r, err)
		}
		return
	}
	if err != api.OK || r != hull(seen) || int(r.Hi-r.Lo+1) != len(seen) {
		t.Fatal(b, r, err, hull(seen))
	}
}

// TestEither is P1.7: the round is summed, and the truth is checked, by the definitions alone.
func TestEither(t *testing.T) {
	books, answers := smalls(t, 1000)
	for i, b := range append(books, larges(t, 1500)...) {
		sharp, tired, err := taste.Least(b)
		if err == api.OK != isTruth(b, sharp, tired) || err == api.OK && taste.CheckTruth(b, sharp, tired) != api.OK {
			t.Fatal(b, sharp, tired, err)
		}
		sharp, tired, bad := taste.Greatest(b)
		if bad == api.OK != isTruth(b, sharp, tired) || bad == api.OK && taste.CheckTruth(b, sharp, tired) != api.OK || bad != err {
			t.Fatal(b, sharp, tired, bad)
		}
		round, none := taste.Round(b)
		by, fail := checkRound(b, round)
		switch {
		case err == api.OK && (none != api.ErrNone || len(round) > 0):
			t.Fatal(b, round, none)
		case err != api.OK && (none != api.OK || fail != api.OK || err != api.ErrTaste):
			t.Fatal(b, round, none, fail, err)
		case err != api.OK:
			if n, e := taste.CheckRound(b, round); n != by || e != api.OK {
				t.Fatal(b, round, n, e, by)
			}
		}
		if i < len(answers) && answers[i].truth != (err == api.OK) {
			t.Fatal(b, err)
		}
	}
}

// TestSpanEnds is P1.8 for large books: a lot that is tasted anew at each end of its Span has a truth, and none beyond.
func TestSpanEnds(t *testing.T) {
	for _, b := range larges(t, 1500) {
		if !hasTruth(b) || len(b.Sittings) == api.MaxTasteSittings || len(places(b)) == api.MaxTastes {
			continue
		}
		for lot, r := range spans(t, b) {
			for _, n := range []int64{r.Lo - 1, r.Lo, (r.Lo + r.Hi) / 2, r.Hi, r.Hi + 1} {
				if n < -1000 || n > 1000 {
					continue
				}
				anew := clone(b)
				anew.Sittings = append(anew.Sittings, sitting(int64(lot), n, n))
				sharp, tired, err := taste.Least(anew)
				if n < r.Lo || n > r.Hi {
					if round, _ := taste.Round(anew); err != api.ErrTaste || len(round) == 0 {
						t.Fatal(b, lot, n, err)
					}
				} else if err != api.OK || sharp[lot] != n || !isTruth(b, sharp, tired[:len(tired)-1]) {
					t.Fatal(b, lot, n, sharp, err)
				}
			}
		}
	}
}

// someTruths returns some truths of a small book: sharpness and tiredness by turns.
func someTruths(b api.TasteBook, d *dice.Dice) [][2][]int64 {
	var out [][2][]int64
	everyTired(b, func(tired []int64) {
		lots, ok := box(b, tired, -1)
		if !ok || d.Below(4) > 0 && len(out) > 0 {
			return
		}
		var sharp []int64
		for _, r := range lots {
			sharp = append(sharp, d.From(r.Lo, r.Hi))
		}
		out = append(out, [2][]int64{sharp, slices.Clone(tired)})
	})
	return out[:min(len(out), 12)]
}

// pick returns, at each place of two lists, what the function picks.
func pick(one, two []int64, which func(int64, ...int64) int64) []int64 {
	var out []int64
	for i := range one {
		out = append(out, which(one[i], two[i]))
	}
	return out
}

func least(n int64, more ...int64) int64    { return min(n, slices.Min(more)) }
func greatest(n int64, more ...int64) int64 { return max(n, slices.Max(more)) }

// TestTwoTruths is P1.9.
func TestTwoTruths(t *testing.T) {
	books, answers := smalls(t, 600)
	d := dice.Dice(3)
	for i, b := range books {
		if !answers[i].truth {
			continue
		}
		truths := someTruths(b, &d)
		for _, one := range truths {
			if err := taste.CheckTruth(b, one[0], one[1]); err != api.OK {
				t.Fatal(b, one, err)
			}
			for _, two := range truths {
				low := taste.CheckTruth(b, pick(one[0], two[0], least), pick(one[1], two[1], least))
				high := taste.CheckTruth(b, pick(one[0], two[0], greatest), pick(one[1], two[1], greatest))
				if low != api.OK || high != api.OK {
					t.Fatal(b, one, two, low, high)
				}
			}
		}
	}
}

// TestApart is P1.10.
func TestApart(t *testing.T) {
	books, _ := smalls(t, 600)
	for _, b := range append(books, larges(t, 600)...) {
		if !hasTruth(b) {
			continue
		}
		span := spans(t, b)
		for one := range b.Lots {
			for two := range b.Lots {
				r, err := taste.Apart(b, one, two)
				back, bad := taste.Apart(b, two, one)
				if err != api.OK || bad != api.OK || back != to(-r.Hi, -r.Lo) || one == two && r != to(0, 0) {
					t.Fatal(b, one, two, r, err, back, bad)
				}
				if !inside(span[one], to(span[two].Lo+r.Lo, span[two].Hi+r.Hi)) {
					t.Fatal(b, one, two, span, r)
				}
			}
		}
	}
}

// narrower returns books that say more than a book: a narrower Said, a narrower Rate, or one more taste at the end of a sitting.
func narrower(b api.TasteBook, d *dice.Dice) []api.TasteBook {
	var out []api.TasteBook
	if r := b.Rate; r.Lo < r.Hi {
		low, high := clone(b), clone(b)
		low.Rate.Lo++
		high.Rate.Hi--
		out = append(out, low, high)
	}
	for i, s := range b.Sittings {
		for k, x := range s {
			if x.Said.Lo < x.Said.Hi {
				low, high := clone(b), clone(b)
				low.Sittings[i][k].Said.Lo++
				high.Sittings[i][k].Said.Hi--
				out = append(out, low, high)
			}
		}
		if len(places(b)) < api.MaxTastes {
			more := clone(b)
			end := s[len(s)-1]
			more.Sittings[i] = append(more.Sittings[i], api.TasteSaid{Lot: d.Below(b.Lots), Said: to(max(end.Said.Lo-60, -1000), end.Said.Hi)})
			out = append(out, more)
		}
	}
	return out
}

// TestNarrower is P1.11.
func TestNarrower(t *testing.T) {
	books, _ := smalls(t, 300)
	d := dice.Dice(4)
	compared := 0
	for _, b := range append(books, larges(t, 150)...) {
		for _, n := range narrower(b, &d) {
			if !hasTruth(n) {
				continue
			}
			if !hasTruth(b) {
				t.Fatal(b, n)
			}
			wide := spans(t, b)
			for lot, r := range spans(t, n) {
				if !inside(r, wide[lot]) {
					t.Fatal(b, n, lot, r, wide[lot])
				}
			}
			compared++
		}
	}
	if compared == 0 {
		t.Error("nothing was compared")
	}
}

// TestAlone is P1.12.
func TestAlone(t *testing.T) {
	books, _ := smalls(t, 600)
	for _, b := range append(books, larges(t, 600)...) {
		if !hasTruth(b) {
			continue
		}
		span := spans(t, b)
		tasted := make([]bool, b.Lots)
		for _, x := range places(b) {
			tasted[x.Lot] = true
			if x.first && !inside(span[x.Lot], x.Said) {
				t.Fatal(b, x, span)
			}
		}
		for lot, r := range span {
			if !tasted[lot] && r != to(0, 1000) {
				t.Fatal(b, lot, r)
			}
		}
	}
}

// moved returns a book in which all that is said of a lot is greater, and whether it stays within the limits.
func moved(b api.TasteBook, lot int, by int64) (api.TasteBook, bool) {
	b = clone(b)
	for _, s := range b.Sittings {
		for k := range s {
			if s[k].Lot == lot {
				s[k].Said.Lo += by
				s[k].Said.Hi += by
			}
		}
	}
	return b, taste.CheckBook(b) == api.OK
}

// TestMoved is P1.13.
func TestMoved(t *testing.T) {
	books, answers := smalls(t, 600)
	d := dice.Dice(5)
	compared := 0
	for i, b := range books {
		if !answers[i].truth {
			continue
		}
		for _, truth := range someTruths(b, &d) {
			lot, by := d.Below(b.Lots), d.From(-400, 400)
			m, ok := moved(b, lot, by)
			truth[0][lot] += by
			if n := truth[0][lot]; !ok || n < 0 || n > 1000 {
				continue
			}
			if err := taste.CheckTruth(m, truth[0], truth[1]); err != api.OK {
				t.Fatal(b, m, truth, err)
			}
			if r, err := taste.Span(m, lot); err != api.OK || !inside(to(truth[0][lot], truth[0][lot]), r) {
				t.Fatal(b, m, truth, r, err)
			}
			compared++
		}
	}
	if compared == 0 {
		t.Error("nothing was compared")
	}
}

// TestSittings is P1.14.
func TestSittings(t *testing.T) {
	books, _ := smalls(t, 600)
	d := dice.Dice(6)
	for _, b := range append(books, larges(t, 600)...) {
		other := clone(b)
		for i := range other.Sittings {
			k := d.Below(i + 1)
			other.Sittings[i], other.Sittings[k] = other.Sittings[k], other.Sittings[i]
		}
		if hasTruth(b) != hasTruth(other) {
			t.Fatal(b, other)
		}
		if hasTruth(b) && !slices.Equal(spans(t, b), spans(t, other)) {
			t.Fatal(b, other, spans(t, b), spans(t, other))
		}
	}
}

// TestWrongAll is P1.15.
func TestWrongAll(t *testing.T) {
	books, answers := smalls(t, 1000)
	nothing := 0
	for i, b := range books {
		wrong, err := taste.Wrong(b)
		if err != api.OK || !slices.IsSorted(wrong) {
			t.Fatal(b, wrong, err)
		}
		if answers[i].truth && len(wrong) != len(places(b)) {
			t.Fatal(b, wrong)
		}
		if len(wrong) == 0 && len(places(b)) > 0 {
			nothing++
			if answers[i].truth || len(tryWrong(b)) > 0 {
				t.Fatal(b)
			}
		}
	}
	if nothing == 0 {
		t.Error("there was no book of which two tastes are wrong")
	}
}

// TestWrongLarge checks Wrong of large books: what is said by a taste that is told can be all that can be, and so has a truth.
func TestWrongLarge(t *testing.T) {
	single := 0
	for _, b := range larges(t, 800) {
		wrong, err := taste.Wrong(b)
		if err != api.OK {
			t.Fatal(b, err)
		}
		for k := range places(b) {
			wide := clone(b)
			left := k
			for i := range wide.Sittings {
				if left >= 0 && left < len(wide.Sittings[i]) {
					wide.Sittings[i][left].Said = to(-1000, 1000)
				}
				left -= len(wide.Sittings[i])
			}
			if hasTruth(wide) != slices.Contains(wrong, k) {
				t.Fatal(b, k, wrong)
			}
		}
		if len(wrong) > 0 && len(wrong) < len(places(b)) {
			single++
		}
	}
	if single == 0 {
		t.Error("there was no book of which only some tastes can be wrong")
	}
}
