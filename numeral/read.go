package numeral

import (
	"cmp"
	"slices"

	"bulla/api"
	"bulla/metro"
)

// Read returns the value of a numeral on a ladder.
func Read(l api.Ladder, n api.Numeral) (int, api.Errno) {
	if e := cmp.Or(metro.Check(l), checkWhole(n)); e != api.OK {
		return 0, e
	}
	plus, e := sumOf(l, n.Plus)
	if e != api.OK {
		return 0, e
	}
	less, e := sumOf(l, n.Less)
	if e != api.OK && e != api.ErrBig {
		return 0, e
	}
	last, _ := metro.Value(l, n.Plus[len(n.Plus)-1].Sign)
	if e == api.ErrBig || less >= last {
		return 0, api.ErrLess
	}
	return plus - less, api.OK
}

// checkWhole returns the error of Check, and ErrDamage for a damaged numeral.
func checkWhole(n api.Numeral) api.Errno {
	e := Check(n)
	if e == api.OK && slices.ContainsFunc(n.Plus, isDamaged) {
		return api.ErrDamage
	}
	return e
}

// sumOf returns the sum of groups without gaps.
func sumOf(l api.Ladder, groups []api.Group) (int, api.Errno) {
	at, e := places(l, groups)
	if e != api.OK {
		return 0, e
	}
	counts := make([]int, len(l.Units))
	for i, g := range groups {
		counts[at[i]] = g.Count
	}
	return metro.Total(l, counts)
}

// places returns the index of the unit of each group, if all signs are on the ladder and the greater ones stand first. For a gap it is that of the group before it, or the number of units: what is lost there is smaller.
func places(l api.Ladder, groups []api.Group) ([]int, api.Errno) {
	var at []int
	before := len(l.Units)
groups:
	for _, g := range groups {
		if isGap(g) {
			at = append(at, before)
			continue
		}
		for i, u := range l.Units {
			if u.Sign != g.Sign {
				continue
			}
			if i >= before {
				return nil, api.ErrUnordered
			}
			at, before = append(at, i), i
			continue groups
		}
		return nil, api.ErrUnit
	}
	return at, api.OK
}

// Readings returns the values on all ladders on which a numeral can be read.
func Readings(l []api.Ladder, n api.Numeral) ([]api.Reading, api.Errno) {
	if len(l) > api.MaxLadders {
		return nil, api.ErrLimit
	}
	for _, x := range l {
		if e := metro.Check(x); e != api.OK {
			return nil, e
		}
	}
	if e := checkWhole(n); e != api.OK {
		return nil, e
	}
	var readings []api.Reading
	for _, x := range l {
		if value, e := Read(x, n); e == api.OK {
			readings = append(readings, api.Reading{Ladder: x.Name, N: value})
		}
	}
	return readings, api.OK
}
