package date

import (
	"slices"

	"bulla/api"
	"bulla/metro"
)

// The months of the years by which a calendar is extended: the odd ones have 30 days, and so does the second month of a doubled one.
const (
	oddLong    = 0b0101_0101_0101
	secondLong = 1 << secondBit
)

// cycle is the doubled month at each place of the cycle.
var cycle = [19]int{0, 0, 12, 0, 0, 12, 0, 12, 0, 0, 12, 0, 0, 12, 0, 0, 6, 0, 12}

// checkYear returns ErrCalendar or ErrRange unless a calendar has a year.
func checkYear(c api.Calendar, year int) api.Errno {
	if e := Check(c); e != api.OK {
		return e
	}
	if year < 0 || year >= len(c.Years) {
		return api.ErrRange
	}
	return api.OK
}

// kingOf returns the king of a year.
func kingOf(c api.Calendar, year int) string { return c.Kings[c.Years[year].King] }

// Reign returns the king of a year, and which of the king's years it is.
func Reign(c api.Calendar, year int) (king string, n int, e api.Errno) {
	if e := checkYear(c, year); e != api.OK {
		return "", 0, e
	}
	for _, y := range c.Years[:year+1] {
		if y.King == c.Years[year].King {
			n++
		}
	}
	return kingOf(c, year), n, api.OK
}

// YearOf returns the n-th year of a king.
func YearOf(c api.Calendar, king string, n int) (int, api.Errno) {
	if e := Check(c); e != api.OK {
		return 0, e
	}
kings:
	for k, name := range c.Kings {
		if name != king {
			continue
		}
		nth := 0
		for year, y := range c.Years {
			if y.King > k {
				break kings // the reign is over, and no other king has this name
			}
			if y.King == k {
				nth++
			}
			if nth > 0 && nth == n {
				return year, api.OK
			}
		}
	}
	return 0, api.ErrNone
}

// Named returns the years that have a name.
func Named(c api.Calendar, name, king string) ([]int, api.Errno) {
	if e := Check(c); e != api.OK {
		return nil, e
	}
	var found []int
	for _, year := range yearsByName(c)[name] {
		if king == "" || kingOf(c, year) == king {
			found = append(found, year)
		}
	}
	return found, api.OK
}

// yearsByName returns the years of each name in order.
func yearsByName(c api.Calendar) map[string][]int {
	years := map[string][]int{}
	for year, y := range c.Years {
		years[y.Name] = append(years[y.Name], year)
	}
	return years
}

// Extend adds years by the cycle.
func Extend(c api.Calendar, names []string, place int) (api.Calendar, api.Errno) {
	if e := Check(c); e != api.OK {
		return api.Calendar{}, e
	}
	if place < 1 || place > len(cycle) {
		return api.Calendar{}, api.ErrRange
	}
	if len(names) > api.MaxExtend || len(c.Years)+len(names) > api.MaxYears {
		return api.Calendar{}, api.ErrLimit
	}
	extended := api.Calendar{Kings: slices.Clone(c.Kings), Years: slices.Clone(c.Years)}
	king := c.Years[len(c.Years)-1].King
	for i, name := range names {
		hasName := func(y api.Year) bool { return y.King == king && y.Name == name }
		if !metro.IsName(name) || slices.ContainsFunc(extended.Years, hasName) {
			return api.Calendar{}, api.ErrForm
		}
		extended.Years = append(extended.Years, yearOfCycle(king, name, (place-1+i)%len(cycle)))
	}
	return extended, api.OK
}

// yearOfCycle returns a year whose months follow from its place in the cycle, counted from 0.
func yearOfCycle(king int, name string, place int) api.Year {
	y := api.Year{King: king, Name: name, Long: oddLong, Double: cycle[place]}
	if y.Double != 0 {
		y.Long += secondLong
	}
	return y
}
