package broken

import (
	"iter"
	"slices"

	"bulla/api"
	"bulla/metro"
)

// unit is the value of a unit, and the least and the most canonical counts that it may have.
type unit struct {
	value, least, most int
}

// trace is what is visible of a number: the units of its ladder, the smallest one first. Without units, no number from 1 on fits.
type trace []unit

// wholeTrace returns the trace that only one number fits.
func wholeTrace(l api.Ladder, n int) trace {
	t := emptyTrace(l)
	counts, _ := metro.Split(l, n)
	for i, count := range counts {
		t[i].least, t[i].most = count, count
	}
	return t
}

// emptyTrace returns a trace in which no unit has a mark.
func emptyTrace(l api.Ladder) trace {
	var t trace
	value := 1
	for _, u := range l.Units {
		value *= u.Factor
		t = append(t, unit{value: value})
	}
	return t
}

// damagedTrace returns the trace of the groups of a damaged numeral.
func damagedTrace(l api.Ladder, groups []api.Group) trace {
	t, inGap := emptyTrace(l), false
	for i, u := range slices.Backward(l.Units) {
		if startsWithGap(groups) {
			groups, inGap = groups[1:], true
		}
		most := mostCount(l, i)
		switch {
		case len(groups) > 0 && groups[0].Sign == u.Sign && groups[0].Count <= most:
			t[i].least, t[i].most = groups[0].Count, groups[0].Count
			if groups[0].More {
				t[i].most = most
			}
			groups, inGap = groups[1:], false
		case inGap:
			t[i].most = most
		}
	}
	if startsWithGap(groups) {
		groups = groups[1:]
	}
	if len(groups) > 0 { // they cannot stand there in a canonical numeral
		return nil
	}
	return t
}

func startsWithGap(groups []api.Group) bool {
	return len(groups) > 0 && groups[0] == api.Group{}
}

// mostCount returns the greatest count that a unit has in canonical numerals.
func mostCount(l api.Ladder, unit int) int {
	if unit+1 < len(l.Units) {
		return l.Units[unit+1].Factor - 1
	}
	return api.MaxCount
}

// fits reports whether a number from 1 on fits.
func (t trace) fits(n int) bool {
	for _, u := range slices.Backward(t) {
		count := n / u.value
		if count < u.least || count > u.most {
			return false
		}
		n -= count * u.value
	}
	return n == 0
}

// atLeast returns the smallest number from n on that fits, if there is one.
func (t trace) atLeast(n int) (int, bool) {
	if len(t) == 0 {
		return 0, n <= 0
	}
	u, smaller := t[len(t)-1], t[:len(t)-1]
	// The second count at the latest is greater than what n has of this unit, so that all smaller counts will do.
	for count := max(u.least, n/u.value); count <= u.most; count++ {
		if rest, ok := smaller.atLeast(n - count*u.value); ok {
			return count*u.value + rest, true
		}
	}
	return 0, false
}

// atMost returns the greatest number up to n that fits, if there is one.
func (t trace) atMost(n int) (int, bool) {
	if len(t) == 0 {
		return 0, n >= 0
	}
	u, smaller := t[len(t)-1], t[:len(t)-1]
	for count := min(u.most, n/u.value); count >= u.least; count-- {
		if rest, ok := smaller.atMost(n - count*u.value); ok {
			return count*u.value + rest, true
		}
	}
	return 0, false
}

// upTo produces all numbers from 1 to most that fit, increasing.
func (t trace) upTo(most int) iter.Seq[int] {
	return func(yield func(int) bool) {
		for n, ok := t.atLeast(1); ok && n <= most; n, ok = t.atLeast(n + 1) {
			if !yield(n) {
				return
			}
		}
	}
}
