package numeral

import (
	"slices"

	"bulla/api"
	"bulla/metro"
)

// Write returns the canonical numeral of n.
func Write(l api.Ladder, n int) (api.Numeral, api.Errno) {
	counts, e := split(l, n)
	if e != api.OK {
		return api.Numeral{}, e
	}
	return written(l, counts)
}

// split returns the canonical counts of a number from 1 on.
func split(l api.Ladder, n int) ([]int, api.Errno) {
	counts, e := metro.Split(l, n)
	if e == api.OK && n == 0 {
		return nil, api.ErrRange
	}
	return counts, e
}

// written returns the numeral of canonical counts.
func written(l api.Ladder, counts []int) (api.Numeral, api.Errno) {
	if counts[len(counts)-1] > api.MaxCount { // the other counts are smaller than a factor
		return api.Numeral{}, api.ErrCount
	}
	return api.Numeral{Plus: groupsOf(l, counts)}, api.OK
}

// groupsOf returns the groups of counts, the greatest unit first.
func groupsOf(l api.Ladder, counts []int) []api.Group {
	var groups []api.Group
	for i, count := range slices.Backward(counts) {
		if count > 0 {
			groups = append(groups, api.Group{Count: count, Sign: l.Units[i].Sign})
		}
	}
	return groups
}

// Short returns the numeral of n with the fewest marks.
func Short(l api.Ladder, n int) (api.Numeral, api.Errno) {
	counts, e := split(l, n)
	if e != api.OK {
		return api.Numeral{}, e
	}
	if counts[len(counts)-1] >= api.MaxCount { // one more must find room when n is rounded up
		return api.Numeral{}, api.ErrCount
	}
	shortest := api.Numeral{Plus: groupsOf(l, counts)}
	// The sum of Plus is a multiple of the value of its last sign, and Less is less than that value: so for each unit only the next multiple above n is possible. These multiples increase with the units, so that the first one of equally short numerals is the one that is wanted.
	for _, value := range signValues(l) {
		if n%value == 0 {
			continue
		}
		x, ok := lessened(l, n-n%value+value, n)
		if ok && Marks(x) < Marks(shortest) {
			shortest = x
		}
	}
	return shortest, api.OK
}

// signValues returns the value of each sign of a valid ladder.
func signValues(l api.Ladder) []int {
	var values []int
	for _, u := range l.Units {
		value, _ := metro.Value(l, u.Sign)
		values = append(values, value)
	}
	return values
}

// lessened returns the numeral of a sum, less what it exceeds n by, or false if the sum is too great to be read.
func lessened(l api.Ladder, sum, n int) (api.Numeral, bool) {
	plus, e := metro.Split(l, sum)
	if e != api.OK {
		return api.Numeral{}, false
	}
	less, e := metro.Split(l, sum-n)
	return api.Numeral{Plus: groupsOf(l, plus), Less: groupsOf(l, less)}, e == api.OK
}

// Canonical returns the canonical numeral of the same value.
func Canonical(l api.Ladder, n api.Numeral) (api.Numeral, api.Errno) {
	value, e := Read(l, n)
	if e != api.OK {
		return api.Numeral{}, e
	}
	return Write(l, value)
}
