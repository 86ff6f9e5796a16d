package farm

import "senvy/api"

// ratio returns a fraction in least terms; den is above 0.
func ratio(num, den int64) api.Ratio {
	common, rest := den, num
	for rest != 0 {
		common, rest = rest, common%rest
	}
	return api.Ratio{Num: num / common, Den: den / common}
}

// less reports whether a fraction is less than another one.
func less(one, two api.Ratio) bool { return one.Num*two.Den < two.Num*one.Den }
