package date

import (
	"cmp"
	"math"
	"slices"

	"bulla/api"
)

// Fits reports whether a date fits a trace.
func Fits(c api.Calendar, t api.DateTrace, d api.Date) (bool, api.Errno) {
	s, e := locate(c, d)
	if e := cmp.Or(e, CheckTrace(t)); e != api.OK {
		return false, e
	}
	first, last := daysOf(t, s.length)
	return monthFits(c, t, s.monthOfYear) && first <= d.Day && d.Day <= last, api.OK
}

// monthFits reports whether a month has dates that fit a trace, as far as its year and its number tell.
func monthFits(c api.Calendar, t api.DateTrace, m monthOfYear) bool {
	if t.Month != 0 && m != (monthOfYear{m.year, t.Month, t.Second}) {
		return false
	}
	named := m.year - t.After
	if t.Name != "" && (named < 0 || c.Years[named].Name != t.Name) {
		return false
	}
	return t.King == "" || kingOf(c, m.year) == t.King
}

// daysOf returns the first and the last day that fit a trace, of a month of so many days. (None fits if the first one is after the last one.)
func daysOf(t api.DateTrace, length int) (first, last int) {
	switch {
	case t.Day == 0:
		return 1, length
	case t.More:
		return t.Day, length
	default:
		return t.Day, min(t.Day, length)
	}
}

// Spans returns all days that fit a trace.
func Spans(c api.Calendar, t api.DateTrace) ([]api.Span, api.Errno) {
	if e := cmp.Or(Check(c), CheckTrace(t)); e != api.OK {
		return nil, e
	}
	return spans(c, t), api.OK
}

func spans(c api.Calendar, t api.DateTrace) []api.Span {
	var found []api.Span
	for s := range months(c) {
		first, last := daysOf(t, s.length)
		if first > last || !monthFits(c, t, s.monthOfYear) {
			continue
		}
		found = joined(found, api.Span{First: s.first + first - 1, Last: s.first + last - 1})
	}
	return found
}

// joined adds a span to those before it: it goes on the last one if there is no day between them.
func joined(l []api.Span, s api.Span) []api.Span {
	if n := len(l); n > 0 && l[n-1].Last+1 == s.First {
		l[n-1].Last = s.Last
		return l
	}
	return append(l, s)
}

// Series returns the spans of the days that traces in order may have.
func Series(c api.Calendar, l []api.DateTrace) ([]api.Span, api.Errno) {
	if e := Check(c); e != api.OK {
		return nil, e
	}
	if len(l) > api.MaxSeries {
		return nil, api.ErrLimit
	}
	for _, t := range l {
		if e := CheckTrace(t); e != api.OK {
			return nil, e
		}
	}
	var found [][]api.Span
	for _, t := range l {
		found = append(found, spans(c, t))
	}
	return assign(found)
}

// assign returns the earliest and the latest days of an assignment, of traces whose days are given.
func assign(days [][]api.Span) ([]api.Span, api.Errno) {
	ends := make([]api.Span, len(days))
	first, last, ok := 0, math.MaxInt, true
	for i, l := range days {
		if first, ok = firstFrom(l, first); !ok {
			return nil, api.ErrSeries
		}
		ends[i].First = first
	}
	// The latest days exist, as the earliest ones are an assignment.
	for i, l := range slices.Backward(days) {
		last = lastUpTo(l, last)
		ends[i].Last = last
	}
	return ends, api.OK
}

// firstFrom returns the first day of some spans that is not before a day, or false if there is none.
func firstFrom(l []api.Span, day int) (int, bool) {
	for _, s := range l {
		if s.Last >= day {
			return max(s.First, day), true
		}
	}
	return 0, false
}

// lastUpTo returns the last day of some spans that is not after a day, or 0 if there is none.
func lastUpTo(l []api.Span, day int) int {
	for _, s := range slices.Backward(l) {
		if s.First <= day {
			return min(s.Last, day)
		}
	}
	return 0
}
