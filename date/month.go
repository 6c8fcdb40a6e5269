package date

import (
	"iter"

	"bulla/api"
)

const (
	lastMonth   = 12
	shortLength = 29
	secondBit   = 12 // the bit of Long of the second month of a doubled one
)

// monthOfYear is a month of a calendar.
type monthOfYear struct {
	year, number int
	second       bool
}

// stretch is a month with its place among all months and all days: its number, that of its first day, and how many days it has.
type stretch struct {
	monthOfYear
	ordinal, first, length int
}

// months produces all months of a calendar in order.
func months(c api.Calendar) iter.Seq[stretch] {
	return func(yield func(stretch) bool) {
		ordinal, first := 1, 1
		for year := range c.Years {
			for m, length := range monthsOf(c, year) {
				if !yield(stretch{m, ordinal, first, length}) {
					return
				}
				ordinal, first = ordinal+1, first+length
			}
		}
	}
}

// monthsOf produces the months of a year in order, each with how many days it has.
func monthsOf(c api.Calendar, year int) iter.Seq2[monthOfYear, int] {
	return func(yield func(monthOfYear, int) bool) {
		y := c.Years[year]
		for number := 1; number <= lastMonth; number++ {
			if !yield(monthOfYear{year, number, false}, length(y, number-1)) {
				return
			}
			if number == y.Double && !yield(monthOfYear{year, number, true}, length(y, secondBit)) {
				return
			}
		}
	}
}

// length returns how many days a month has, of which Long tells by a bit.
func length(y api.Year, bit int) int { return shortLength + y.Long>>bit&1 }

// Length returns the number of days of a month.
func Length(c api.Calendar, year, month int, second bool) (int, api.Errno) {
	if e := checkYear(c, year); e != api.OK {
		return 0, e
	}
	for m, length := range monthsOf(c, year) {
		if m == (monthOfYear{year, month, second}) {
			return length, api.OK
		}
	}
	return 0, api.ErrNone
}

// Days returns the number of days of a year.
func Days(c api.Calendar, year int) (int, api.Errno) {
	if e := checkYear(c, year); e != api.OK {
		return 0, e
	}
	days := 0
	for _, length := range monthsOf(c, year) {
		days += length
	}
	return days, api.OK
}
