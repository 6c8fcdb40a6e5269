package place

import (
	"sort"

	"bulla/api"
)

// Near returns the neighbours of 1/n.
func Near(n, digits int) (low, high api.Place, e api.Errno) {
	if !isFrom(1, api.MaxNum, n) || !isFrom(1, api.MaxNear, digits) {
		return api.Place{}, api.Place{}, api.ErrRange
	}
	// m and rest are 60 to the power k divided by n: a power of 60 of so many digits might be too great for an int.
	m, rest, k := 1/n, 1%n, 0
	for m < power(digits-1) {
		m, rest, k = m*api.Base+rest*api.Base/n, rest*api.Base%n, k+1
	}
	low, _ = numberOf(m).place(-k)
	if rest > 0 {
		m++
	}
	high, _ = numberOf(m).place(-k)
	return low, high, api.OK
}

// Root returns the square root of n, rounded down.
func Root(n, digits int) (api.Place, api.Errno) {
	if !isFrom(1, api.MaxNum, n) || !isFrom(1, api.MaxRoot, digits) {
		return api.Place{}, api.ErrRange
	}
	square, k := n, 0
	for square < power(2*digits-2) {
		square, k = square*power(2), k-1
	}
	// What is lost here, being less than 1, has no influence on the greatest whole number whose square is not greater.
	for square >= power(2*digits) {
		square, k = square/power(2), k+1
	}
	tooGreat := func(r int) bool { return r*r > square }
	return numberOf(sort.Search(power(digits), tooGreat) - 1).place(k)
}

// power returns 60 to the power exponent, which is at most 10.
func power(exponent int) int {
	p := 1
	for range exponent {
		p *= api.Base
	}
	return p
}
