package ledger

import (
	"bulla/api"
	"bulla/date"
)

// auditor checks the days of loans, crews and periods in a valid calendar.
type auditor struct {
	api.Calendar
	before []int // how many days there are before each year
}

func newAuditor(c api.Calendar) (auditor, api.Errno) {
	if e := date.Check(c); e != api.OK {
		return auditor{}, e
	}
	a := auditor{Calendar: c}
	days := 0
	for year := range a.Years {
		a.before = append(a.before, days)
		n, _ := date.Days(a.alone(year), 0)
		days += n
	}
	return a, api.OK
}

// alone returns the calendar of a single year. Package date, which goes through a whole calendar at each call, finds the days of a year in it much faster.
func (a auditor) alone(year int) api.Calendar {
	y := a.Years[year]
	king := a.Kings[y.King]
	y.King = 0
	return api.Calendar{Kings: []string{king}, Years: []api.Year{y}}
}

// number returns the number of a day, or false if it is not in the calendar.
func (a auditor) number(d api.Date) (n int, is bool) {
	year := d.Year
	if year < 0 || year >= len(a.Years) {
		return 0, false
	}
	d.Year = 0
	n, e := date.Number(a.alone(year), d)
	return a.before[year] + n, e == api.OK
}

// day returns the number of a day that is known to be in the calendar.
func (a auditor) day(d api.Date) int {
	n, _ := a.number(d)
	return n
}

// inOrder reports whether all dates are in the calendar, and none is before the one before it.
func (a auditor) inOrder(l ...api.Date) bool {
	latest := 0
	for _, d := range l {
		n, is := a.number(d)
		if !is || n < latest {
			return false
		}
		latest = n
	}
	return true
}

// scheme returns the schematic days between two days of the calendar.
func (a auditor) scheme(from, to api.Date) int {
	n, _ := date.Scheme(a.Calendar, from, to)
	return n
}
