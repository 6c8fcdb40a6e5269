package numeral

import (
	"cmp"

	"bulla/api"
	"bulla/metro"
)

// Sum returns the canonical numeral of a sum, and the carries.
func Sum(l api.Ladder, x []api.Numeral) (s api.Numeral, carries []int, e api.Errno) {
	sums, e := unitSums(l, x)
	if e != api.OK {
		return api.Numeral{}, nil, e
	}
	canonical, carries, e := metro.Carry(l, sums)
	if e != api.OK {
		return api.Numeral{}, nil, e
	}
	s, e = written(l, canonical)
	if e != api.OK {
		return api.Numeral{}, nil, e
	}
	return s, carries, api.OK
}

// unitSums returns, unit by unit, the sums of the canonical counts of all values.
func unitSums(l api.Ladder, x []api.Numeral) ([]int, api.Errno) {
	if e := metro.Check(l); e != api.OK {
		return nil, e
	}
	if len(x) == 0 {
		return nil, api.ErrRange
	}
	if len(x) > api.MaxNumerals {
		return nil, api.ErrLimit
	}
	sums := make([]int, len(l.Units))
	for _, n := range x {
		value, e := Read(l, n)
		if e != api.OK {
			return nil, e
		}
		counts, e := split(l, value)
		if e != api.OK {
			return nil, e
		}
		for i, count := range counts {
			sums[i] += count
		}
	}
	return sums, api.OK
}

// Diff returns the canonical numeral of a difference.
func Diff(l api.Ladder, a, b api.Numeral) (api.Numeral, api.Errno) {
	from, errorA := Read(l, a)
	taken, errorB := Read(l, b)
	if e := cmp.Or(errorA, errorB); e != api.OK {
		return api.Numeral{}, e
	}
	if from <= taken {
		return api.Numeral{}, api.ErrRange
	}
	return Write(l, from-taken)
}

// Times returns the canonical numeral of a multiple.
func Times(l api.Ladder, a api.Numeral, k int) (api.Numeral, api.Errno) {
	value, e := Read(l, a)
	switch {
	case e != api.OK:
		return api.Numeral{}, e
	case k < 1:
		return api.Numeral{}, api.ErrRange
	case k > api.MaxNum/value:
		return api.Numeral{}, api.ErrBig
	}
	return Write(l, k*value)
}
