package account

import (
	"cmp"
	"iter"
	"slices"

	"bulla/api"
	"bulla/metro"
)

// Slips returns the slips that lead to a number.
func Slips(l api.Ladder, n int) ([]api.Slip, api.Errno) {
	counts, e := metro.Split(l, n)
	if e == api.OK && n == 0 {
		e = api.ErrRange
	}
	if e != api.OK {
		return nil, e
	}
	var slips []api.Slip
	for s := range changes(l, counts) {
		s.N += n
		if isValue(s.N) {
			slips = append(slips, s)
		}
	}
	slices.SortFunc(slips, func(a, b api.Slip) int { return cmp.Compare(a.N, b.N) })
	return slips, api.OK
}

// changes produces the slips that lead to canonical counts, with what is to be added to these to get the number that was meant.
func changes(l api.Ladder, counts []int) iter.Seq[api.Slip] {
	return func(yield func(api.Slip) bool) {
		value := 1
		for i, u := range l.Units {
			value *= u.Factor
			if counts[i] > 0 && !yield(api.Slip{Kind: api.SlipMore, Sign: u.Sign, N: -value}) {
				return
			}
			if isCanonical(l, i, counts[i]+1) && !yield(api.Slip{Kind: api.SlipLess, Sign: u.Sign, N: value}) {
				return
			}
			if s, ok := exchange(l, counts, i, value); ok && !yield(s) {
				return
			}
		}
	}
}

// exchange returns the slip by which the marks of a unit, which has that value, and of the next one were exchanged, if there is one.
func exchange(l api.Ladder, counts []int, unit, value int) (api.Slip, bool) {
	if unit+1 == len(l.Units) {
		return api.Slip{}, false
	}
	next := l.Units[unit+1]
	more := value * (next.Factor - 1) // by how much a mark of the next unit is worth more
	low, high := counts[unit], counts[unit+1]
	switch {
	case low == 0 && high > 0 && isCanonical(l, unit, high):
		return api.Slip{Kind: api.SlipUp, Sign: l.Units[unit].Sign, N: -high * more}, true
	case low > 0 && high == 0 && isCanonical(l, unit+1, low):
		return api.Slip{Kind: api.SlipDown, Sign: next.Sign, N: low * more}, true
	}
	return api.Slip{}, false
}

// isCanonical reports whether a unit may have that count in canonical counts.
func isCanonical(l api.Ladder, unit, count int) bool {
	return unit+1 == len(l.Units) || count < l.Units[unit+1].Factor
}
