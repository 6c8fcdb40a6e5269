package metro

import (
	"iter"
	"slices"

	"bulla/api"
)

// Standard returns the standard ladders.
func Standard() []api.Ladder {
	return []api.Ladder{
		{Name: "count", Units: []api.Unit{{Sign: "n01", Factor: 1}, {Sign: "n14", Factor: 10}, {Sign: "n34", Factor: 6}, {Sign: "n48", Factor: 10}, {Sign: "n45", Factor: 6}, {Sign: "n50", Factor: 10}}},
		{Name: "bisex", Units: []api.Unit{{Sign: "n01", Factor: 1}, {Sign: "n14", Factor: 10}, {Sign: "n34", Factor: 6}, {Sign: "n51", Factor: 2}, {Sign: "n54", Factor: 10}, {Sign: "n56", Factor: 6}}},
		{Name: "grain", Units: []api.Unit{{Sign: "n39", Factor: 1}, {Sign: "n01", Factor: 5}, {Sign: "n14", Factor: 6}, {Sign: "n45", Factor: 10}, {Sign: "n48", Factor: 3}, {Sign: "n34", Factor: 10}}},
		{Name: "area", Units: []api.Unit{{Sign: "n01", Factor: 1}, {Sign: "n22", Factor: 6}, {Sign: "n14", Factor: 3}, {Sign: "n50", Factor: 10}, {Sign: "n45", Factor: 6}}},
		{Name: "time", Units: []api.Unit{{Sign: "n08", Factor: 1}, {Sign: "n18", Factor: 10}, {Sign: "n01", Factor: 3}, {Sign: "n57", Factor: 12}}},
		{Name: "weight", Units: []api.Unit{{Sign: "sze", Factor: 1}, {Sign: "szeu", Factor: 10}, {Sign: "gin", Factor: 18}, {Sign: "ginu", Factor: 10}, {Sign: "mana", Factor: 6}, {Sign: "manau", Factor: 10}, {Sign: "gun", Factor: 6}}},
	}
}

// Check returns ErrLadder unless l is valid.
func Check(l api.Ladder) api.Errno {
	return unless(IsName(l.Name) && 1 <= len(l.Units) && len(l.Units) <= api.MaxUnits && signsValid(l.Units) && factorsValid(l.Units), api.ErrLadder)
}

func signsValid(units []api.Unit) bool {
	for i, u := range units {
		hasSign := func(v api.Unit) bool { return v.Sign == u.Sign }
		if !IsName(u.Sign) || slices.ContainsFunc(units[:i], hasSign) {
			return false
		}
	}
	return true
}

func factorsValid(units []api.Unit) bool {
	value := 1
	for i, u := range units {
		least, most := 2, api.MaxFactor
		if i == 0 {
			least, most = 1, 1
		}
		if u.Factor < least || u.Factor > most {
			return false
		}
		value *= u.Factor
		if value > api.MaxNum { // stop here: the value of the last sign may be too great for an int
			return false
		}
	}
	return true
}

// values produces each sign of a valid ladder with its value, the smallest unit first.
func values(l api.Ladder) iter.Seq2[string, int] {
	return func(yield func(string, int) bool) {
		value := 1
		for _, u := range l.Units {
			value *= u.Factor
			if !yield(u.Sign, value) {
				return
			}
		}
	}
}

// Value returns the value of a sign.
func Value(l api.Ladder, sign string) (int, api.Errno) {
	if e := Check(l); e != api.OK {
		return 0, e
	}
	for s, value := range values(l) {
		if s == sign {
			return value, api.OK
		}
	}
	return 0, api.ErrUnit
}

// Split returns the canonical counts of n.
func Split(l api.Ladder, n int) ([]int, api.Errno) {
	if e := first(Check(l), inRange(n)); e != api.OK {
		return nil, e
	}
	counts := make([]int, len(l.Units))
	for i := range counts {
		counts[i] = n
		if i+1 < len(counts) {
			counts[i], n = n%l.Units[i+1].Factor, n/l.Units[i+1].Factor
		}
	}
	return counts, api.OK
}

// Total returns the total of counts.
func Total(l api.Ladder, counts []int) (int, api.Errno) {
	negative := func(n int) bool { return n < 0 }
	e := first(Check(l), unless(len(counts) <= len(l.Units), api.ErrArg), unless(!slices.ContainsFunc(counts, negative), api.ErrRange))
	if e != api.OK {
		return 0, e
	}
	total, left := 0, counts
	for _, value := range values(l) {
		if len(left) == 0 {
			break
		}
		if left[0] > (api.MaxNum-total)/value {
			return 0, api.ErrBig
		}
		total += left[0] * value
		left = left[1:]
	}
	return total, api.OK
}

// Carry returns the canonical counts of a total, and the carries.
func Carry(l api.Ladder, counts []int) (canonical, carries []int, e api.Errno) {
	total, e := Total(l, counts)
	if e != api.OK {
		return nil, nil, e
	}
	canonical, e = Split(l, total)
	carry := 0
	for i, next := range l.Units[1:] {
		if i < len(counts) {
			carry += counts[i]
		}
		carry /= next.Factor
		carries = append(carries, carry)
	}
	return canonical, carries, e
}

// In returns n in units of a sign.
func In(l api.Ladder, n int, sign string) (api.Ratio, api.Errno) {
	value, e := Value(l, sign)
	if e = first(e, inRange(n)); e != api.OK {
		return api.Ratio{}, e
	}
	return Ratio(n, value)
}

// Round returns the multiple of the value of a sign that is nearest to n.
func Round(l api.Ladder, n int, sign string) (int, api.Errno) {
	value, e := Value(l, sign)
	if e = first(e, inRange(n)); e != api.OK {
		return 0, e
	}
	// Of two multiples that are equally near, adding half a value first leads to the greater one.
	nearest := (n + value/2) / value * value
	if nearest > api.MaxNum {
		return 0, api.ErrBig
	}
	return nearest, api.OK
}
