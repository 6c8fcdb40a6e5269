// Package ledger calculates interest, work, rations, herds, and balances that are carried forward. See shared/doc/08-ledger.md.
package ledger

import (
	"bulla/api"
	"bulla/metro"
)

// yearDays is how many schematic days a year has.
const yearDays = 360

// Interest returns the interest of a principal for some schematic days.
func Interest(principal, rate api.Ratio, days int) (api.Ratio, api.Errno) {
	switch {
	case !isAmount(principal) || !isAmount(rate):
		return api.Ratio{}, api.ErrArg
	case days < 0 || days > api.MaxNum:
		return api.Ratio{}, api.ErrRange
	}
	return metro.Product([]api.Ratio{principal, rate, whole(days), {N: 1, D: yearDays}})
}

// Doubles returns the number of schematic days after which a loan has doubled.
func Doubles(rate api.Ratio) (int, api.Errno) {
	if !isPositive(rate) {
		return 0, api.ErrArg
	}
	return roundedUp(yearDays*rate.D, rate.N), api.OK
}

func whole(n int) api.Ratio { return api.Ratio{N: n, D: 1} }

func isAmount(r api.Ratio) bool { return metro.IsRatio(r) && r.N >= 0 }

func isPositive(r api.Ratio) bool { return metro.IsRatio(r) && r.N > 0 }

// isPart reports whether r is a ratio from 0 to 1.
func isPart(r api.Ratio) bool { return isAmount(r) && r.N <= r.D }

// roundedUp returns n divided by d, neither of them negative.
func roundedUp(n, d int) int { return (n + d - 1) / d }
