package place

import (
	"cmp"
	"slices"

	"bulla/api"
	"bulla/metro"
)

// CheckPlace returns the first error of a place-value number.
func CheckPlace(p api.Place) api.Errno {
	if e := Check(p.D); e != api.OK {
		return e
	}
	switch {
	case !isFrom(-api.MaxShift, api.MaxShift, p.Shift):
		return api.ErrRange
	case len(p.D) == 0 && p.Shift != 0:
		return api.ErrForm
	}
	return api.OK
}

// units returns how often 60 to the power of the least shift is contained in a valid place-value number.
func units(p api.Place) number { return numberFrom(p.D, p.Shift+api.MaxShift) }

// Sum returns the sum of all.
func Sum(l []api.Place) (api.Place, api.Errno) {
	if len(l) > api.MaxPlaces {
		return api.Place{}, api.ErrLimit
	}
	var sum number
	for _, p := range l {
		if e := CheckPlace(p); e != api.OK {
			return api.Place{}, e
		}
		sum = sum.plus(units(p))
	}
	return sum.place(-api.MaxShift)
}

// Compare returns -1, 0 or 1.
func Compare(a, b api.Place) (int, api.Errno) {
	if e := cmp.Or(CheckPlace(a), CheckPlace(b)); e != api.OK {
		return 0, e
	}
	x, y := units(a), units(b)
	for i, d := range slices.Backward(x.digits[:]) {
		if d != y.digits[i] {
			return cmp.Compare(d, y.digits[i]), api.OK
		}
	}
	return 0, api.OK
}

// Ratio returns a place-value number as a ratio.
func Ratio(p api.Place) (api.Ratio, api.Errno) {
	if e := CheckPlace(p); e != api.OK {
		return api.Ratio{}, e
	}
	top, bottom := numberFrom(p.D, max(p.Shift, 0)), 1
	for range -min(p.Shift, 0) {
		for _, prime := range []int{2, 2, 3, 5} {
			if quotient, rest := top.over(prime); rest == 0 {
				top = quotient
			} else if bottom *= prime; bottom > api.MaxDen {
				return api.Ratio{}, api.ErrBig
			}
		}
	}
	n, e := top.toInt()
	if e != api.OK {
		return api.Ratio{}, e
	}
	return metro.Ratio(n, bottom)
}

// FromRatio returns a ratio as a place-value number.
func FromRatio(r api.Ratio) (api.Place, api.Errno) {
	if !metro.IsRatio(r) || r.N < 0 {
		return api.Place{}, api.ErrArg
	}
	inverse, exponent, e := numberOf(r.D).inverse()
	if e != api.OK {
		return api.Place{}, e
	}
	return numberOf(r.N).times(inverse).place(-exponent)
}
