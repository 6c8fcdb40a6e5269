package account

import (
	"cmp"
	"iter"

	"bulla/api"
	"bulla/metro"
)

// CheckLots checks a list of lots.
func CheckLots(l []api.Lot) api.Errno {
	if len(l) > api.MaxLots {
		return api.ErrLimit
	}
	for i, x := range l {
		if !metro.IsName(x.Good) || i > 0 && l[i-1].Good >= x.Good || x.N == 0 || isTooBig(x.N) {
			return api.ErrLots
		}
	}
	return api.OK
}

func isTooBig(n int) bool { return n < -api.MaxNum || n > api.MaxNum }

// Add returns the sums of two lists of lots.
func Add(a, b []api.Lot) ([]api.Lot, api.Errno) {
	return combined(a, b, func(x, y int) int { return x + y })
}

// Sub returns the differences of two lists of lots.
func Sub(a, b []api.Lot) ([]api.Lot, api.Errno) {
	return combined(a, b, func(x, y int) int { return x - y })
}

// combined returns the lots that are calculated from the amounts of each good in two lists.
func combined(a, b []api.Lot, calculate func(x, y int) int) ([]api.Lot, api.Errno) {
	if e := cmp.Or(CheckLots(a), CheckLots(b)); e != api.OK {
		return nil, e
	}
	var lots []api.Lot
	for x, y := range pairs(a, b, goodOf) {
		n := calculate(x.N, y.N)
		if isTooBig(n) {
			return nil, api.ErrBig
		}
		if n != 0 {
			lots = append(lots, api.Lot{Good: cmp.Or(x.Good, y.Good), N: n})
		}
	}
	if len(lots) > api.MaxLots {
		return nil, api.ErrLimit
	}
	return lots, api.OK
}

func goodOf(x api.Lot) string { return x.Good }

// pairs produces the elements of two lists that have the same key, by increasing keys, as the lists are sorted. The zero value stands for an element that a list does not have.
func pairs[T any, K cmp.Ordered](a, b []T, key func(T) K) iter.Seq2[T, T] {
	return func(yield func(T, T) bool) {
		a, b := a, b
		for len(a)+len(b) > 0 {
			var x, y T
			takeA := len(b) == 0 || len(a) > 0 && key(a[0]) <= key(b[0])
			takeB := len(a) == 0 || len(b) > 0 && key(b[0]) <= key(a[0])
			if takeA {
				x, a = a[0], a[1:]
			}
			if takeB {
				y, b = b[0], b[1:]
			}
			if !yield(x, y) {
				return
			}
		}
	}
}

// Scale multiplies all lots by a number.
func Scale(l []api.Lot, k int) ([]api.Lot, api.Errno) {
	if e := CheckLots(l); e != api.OK || k == 0 {
		return nil, e
	}
	var lots []api.Lot
	for _, x := range l {
		most := api.MaxNum / max(x.N, -x.N) // so that the product is not formed where an int cannot hold it
		if k < -most || k > most {
			return nil, api.ErrBig
		}
		lots = append(lots, api.Lot{Good: x.Good, N: x.N * k})
	}
	return lots, api.OK
}

// Covers reports whether a has at least as much of each good as b.
func Covers(a, b []api.Lot) (bool, api.Errno) {
	if e := cmp.Or(CheckLots(a), CheckLots(b)); e != api.OK {
		return false, e
	}
	for x, y := range pairs(a, b, goodOf) {
		if x.N < y.N {
			return false, api.OK
		}
	}
	return true, api.OK
}
