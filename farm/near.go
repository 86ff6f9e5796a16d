package farm

import (
	"cmp"
	"slices"
)

// gaps returns the difference between the share and the quota of each farm, without its sign, multiplied by the total.
func (p purse) gaps() []int64 {
	var gaps []int64
	for farm, clean := range p.Clean {
		by := p.shares[farm]*sum(p.Clean) - clean*p.Price
		gaps = grown(gaps, max(by, -by))
	}
	return gaps
}

// near reports whether the shares are near: each differs from its quota by less than a coin.
func (p purse) near() bool { return within(0, sum(p.Clean)-1, p.gaps()...) }

// nearest returns the purse with the near shares.
func (p purse) nearest() purse {
	var farms []int
	for farm, clean := range p.Clean {
		p.shares[farm] = clean * p.Price / sum(p.Clean)
		farms = grown(farms, farm)
	}
	gaps := p.gaps()
	slices.SortStableFunc(farms, func(one, two int) int { return cmp.Compare(gaps[two], gaps[one]) })
	left := p.Price - sum(p.list())
	for _, farm := range farms[:left] {
		p.shares[farm]++
	}
	return p
}

// grown returns a list with one more element.
func grown[T any](list []T, element T) []T {
	// The list that was given stays as it is, so this one must grow in new memory.
	n := len(list)
	return append(list[:n:n], element)
}
