package numeral

import (
	"cmp"
	"iter"

	"bulla/api"
	"bulla/metro"
)

// span is the canonical counts that a unit may have.
type span struct {
	least, most int
}

// Fits reports whether n may have stood where t is visible.
func Fits(l api.Ladder, t api.Numeral, n int) (bool, api.Errno) {
	if e := cmp.Or(metro.Check(l), Check(t)); e != api.OK {
		return false, e
	}
	counts, e := split(l, n)
	if e != api.OK {
		return false, e
	}
	spans, ok := spansOf(l, t)
	if !ok {
		return false, api.OK
	}
	for i, s := range spans {
		if counts[i] < s.least || counts[i] > s.most {
			return false, api.OK
		}
	}
	return true, api.OK
}

// Candidates returns all numbers up to most that may have stood where t is visible.
func Candidates(l api.Ladder, t api.Numeral, most, limit int) ([]int, api.Errno) {
	if e := cmp.Or(metro.Check(l), Check(t)); e != api.OK {
		return nil, e
	}
	if most < 1 || most > api.MaxNum || limit < 1 || limit > api.MaxFound {
		return nil, api.ErrRange
	}
	spans, ok := spansOf(l, t)
	if !ok {
		return nil, api.OK
	}
	var found []int
	for n := range numbers(l, spans) {
		if n > most {
			break
		}
		if len(found) == limit {
			return nil, api.ErrLimit
		}
		found = append(found, n)
	}
	return found, api.OK
}

// spansOf returns the counts that each unit of a number that fits t may have, or false if no number fits it.
func spansOf(l api.Ladder, t api.Numeral) ([]span, bool) {
	if Damaged(t) {
		return spansOfDamaged(l, t.Plus)
	}
	value, e := Read(l, t)
	if e != api.OK {
		return nil, false
	}
	counts, e := split(l, value)
	var spans []span
	for _, count := range counts {
		spans = append(spans, span{count, count})
	}
	return spans, e == api.OK
}

// spansOfDamaged does so for the groups of a damaged numeral.
func spansOfDamaged(l api.Ladder, groups []api.Group) ([]span, bool) {
	at, e := places(l, groups)
	if e != api.OK {
		return nil, false
	}
	spans := make([]span, len(l.Units)) // where nothing is visible and no gap is, there are no marks
	for i, g := range groups {
		if isGap(g) {
			next := -1 // the unit of the group after the gap
			if i+1 < len(at) {
				next = at[i+1]
			}
			for j := next + 1; j < at[i]; j++ {
				spans[j] = span{0, mostCount(l, j)}
			}
			continue
		}
		s, most := span{g.Count, g.Count}, mostCount(l, at[i])
		if g.Count > most {
			return nil, false
		}
		if g.More {
			s.most = most
		}
		spans[at[i]] = s
	}
	return spans, true
}

// mostCount returns the greatest count that a unit has in canonical numerals.
func mostCount(l api.Ladder, unit int) int {
	if unit+1 < len(l.Units) {
		return l.Units[unit+1].Factor - 1
	}
	return api.MaxCount
}

// numbers produces all numbers from 1 on whose canonical counts are within the spans, increasing.
func numbers(l api.Ladder, spans []span) iter.Seq[int] {
	return func(yield func(int) bool) {
		counts := make([]int, len(spans))
		for i, s := range spans {
			counts[i] = s.least
		}
		values := signValues(l)
		for more := true; more; more = advance(counts, spans) {
			n := 0
			for i, count := range counts {
				n += count * values[i]
			}
			if n > 0 && !yield(n) {
				return
			}
		}
	}
}

// advance goes on to the next greater counts: a unit that is full starts again, and the next one gets one more. It returns false if all are full.
func advance(counts []int, spans []span) bool {
	for i, s := range spans {
		if counts[i] < s.most {
			counts[i]++
			return true
		}
		counts[i] = s.least
	}
	return false
}
