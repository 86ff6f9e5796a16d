package farm

import "senvy/api"

// shares is how many coins each farm has.
type shares [api.MaxFarms]int64

// none returns the shares of farms of which no one has a coin.
func none() shares { return shares{} }

// purse is a valid year, and the shares of its farms; some coins can be unpaid.
type purse struct {
	api.FarmYear
	shares shares
}

// list returns the share of each farm.
func (p purse) list() []int64 {
	list := make([]int64, len(p.Clean))
	copy(list, p.shares[:])
	return list
}

// quota returns the quota of a farm.
func (p purse) quota(farm int) api.Ratio {
	return ratio(p.Clean[farm]*p.Price, sum(p.Clean))
}

// fair returns the purse with fair shares, made coin by coin.
func (p purse) fair() purse {
	clear(p.shares[:])
	for range p.Price {
		farm := p.next().farm
		p.shares[farm]++
	}
	return p
}
