package date

import (
	"cmp"

	"bulla/api"
)

// schematicMonth is how many schematic days a month has.
const schematicMonth = 30

// Number returns the number of a day.
func Number(c api.Calendar, d api.Date) (int, api.Errno) {
	s, e := locate(c, d)
	if e != api.OK {
		return 0, e
	}
	return s.first + d.Day - 1, api.OK
}

// At returns the date of the day with a number.
func At(c api.Calendar, n int) (api.Date, api.Errno) {
	if e := Check(c); e != api.OK {
		return api.Date{}, e
	}
	for s := range months(c) {
		if s.first <= n && n < s.first+s.length {
			return api.Date{Year: s.year, Month: s.number, Second: s.second, Day: n - s.first + 1}, api.OK
		}
	}
	return api.Date{}, api.ErrRange
}

// Add returns the date so many days later.
func Add(c api.Calendar, d api.Date, days int) (api.Date, api.Errno) {
	n, e := Number(c, d)
	if e != api.OK {
		return api.Date{}, e
	}
	return At(c, n+days) // a sum that is too great for an int wraps around to a negative one, which no day has either
}

// Between returns the number of days from a to b.
func Between(c api.Calendar, a, b api.Date) (int, api.Errno) {
	x, ex := Number(c, a)
	y, ey := Number(c, b)
	if e := cmp.Or(ex, ey); e != api.OK {
		return 0, e
	}
	return y - x, api.OK
}

// Scheme returns the number of schematic days from a to b.
func Scheme(c api.Calendar, a, b api.Date) (int, api.Errno) {
	x, ex := locate(c, a)
	y, ey := locate(c, b)
	if e := cmp.Or(ex, ey); e != api.OK {
		return 0, e
	}
	return schematicMonth*(y.ordinal-x.ordinal) + b.Day - a.Day, api.OK
}
