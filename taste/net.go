package taste

import "senvy/api"

// net is the bounds of a book.
type net map[pair]int64

// net returns the bounds of the book, as a map of its own.
func (t tongue) net() net {
	n := net{}
	for p, by := range t.bounds {
		n[p] = by
	}
	return n
}

// unlink deletes the bounds between two names.
func (n net) unlink(p pair) {
	delete(n, p)
	delete(n, p.back())
}

// bound is by how much one number can be greater than another one, at most, if this is known.
type bound struct {
	by    int64
	known bool
}

// tighter returns the lesser one of two bounds.
func (b bound) tighter(other bound) bound {
	if other.known && (!b.known || other.by < b.by) {
		return other
	}
	return b
}

// then returns the bound that follows from two, of which the second one begins where the first one ends.
func (b bound) then(next bound) bound {
	if !b.known || !next.known {
		return bound{}
	}
	return bound{by: b.by + next.by, known: true}
}

// table has the bound from each name to each other one.
type table [maxNames][maxNames]bound

// none returns the table of a book without a truth, in which no bound is known.
func none() table { return table{} }

// tighten returns the tightest bounds that follow from those of a net (by the way of Floyd and Warshall), or none if it allows no truth.
func (n net) tighten() table {
	var t table
	for i := range t {
		t[i][i] = bound{known: true}
	}
	for p, by := range n {
		t[p.from][p.to] = bound{by: by, known: true}
	}
	for via := range t {
		// A round below 0 shows here, before its sums grow without end.
		if t[via][via].by < 0 {
			return none()
		}
		for from := range t {
			for to := range t {
				t[from][to] = t[from][to].tighter(t[from][via].then(t[via][to]))
			}
		}
	}
	return t
}

// apart returns the least and the greatest number of one name, less that of another one, in any truth.
func (t table) apart(one, two int) api.Range {
	return api.Range{Lo: -t[one][two].by, Hi: t[two][one].by}
}

// apart returns the same of a book, if it has a truth.
func (t tongue) apart(one, two int) (api.Range, api.Errno) {
	tight := t.net().tighten()
	if tight == none() {
		return api.Range{}, api.ErrTaste
	}
	return tight.apart(one, two), api.OK
}
