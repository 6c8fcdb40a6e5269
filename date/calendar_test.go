package date_test

import (
	"fmt"
	"slices"
	"strings"
	"testing"

	"bulla/api"
	"bulla/date"
)

// changed returns the calendar of the examples after a change.
func changed(change func(c *api.Calendar)) api.Calendar {
	c := example()
	change(&c)
	return c
}

func kings(n int) []string {
	var l []string
	for i := range n {
		l = append(l, fmt.Sprint("k", i))
	}
	return l
}

func years(n int) []api.Year {
	var l []api.Year
	for i := range n {
		l = append(l, api.Year{Name: fmt.Sprint("y", i)})
	}
	return l
}

func validCalendars() []api.Calendar {
	return append(several(), largest(),
		api.Calendar{Kings: kings(40), Years: years(1)}, api.Calendar{Kings: kings(1), Years: years(400)},
		changed(func(c *api.Calendar) { c.Kings = append(c.Kings, "ea", longest) }),
		changed(func(c *api.Calendar) { c.Years[0].King, c.Years[1].King = 1, 1; c.Years[0].Name = "door" }),
		changed(func(c *api.Calendar) { c.Kings = names("wall", "canal") }),
		changed(func(c *api.Calendar) { c.Years[0].Name, c.Years[2].Name = longest, longest }),
		changed(func(c *api.Calendar) { c.Years[0] = api.Year{Name: "a", Double: 1, Long: 8191} }),
		changed(func(c *api.Calendar) { c.Years[1] = api.Year{Name: "a", Double: 12, Long: 4096} }),
	)
}

func invalidCalendars() []api.Calendar {
	l := []api.Calendar{{}, {Kings: kings(1)}, {Years: years(1)}, {Kings: kings(41), Years: years(1)}, {Kings: kings(1), Years: years(401)}, {Kings: kings(1000), Years: years(1000)}, {Kings: []string{}, Years: []api.Year{}}}
	for _, king := range []int{-1, 2, mostInt, leastInt} {
		for i := range 3 {
			l = append(l, changed(func(c *api.Calendar) { c.Years[i].King = king }))
		}
	}
	for _, name := range names("", "A", "1a", "_a", "a-", "a b", "é", longest+"a", "a\x00", "wall/", "a@") {
		for i := range 2 {
			l = append(l, changed(func(c *api.Calendar) { c.Kings[i] = name }), changed(func(c *api.Calendar) { c.Years[2*i].Name = name }))
		}
	}
	for _, long := range []int{-1, 4096, 8191, 8192, mostInt, leastInt} {
		l = append(l, changed(func(c *api.Calendar) { c.Years[0].Long = long }))
	}
	for _, long := range []int{-1, 8192, mostInt, leastInt} {
		l = append(l, changed(func(c *api.Calendar) { c.Years[1].Long = long }))
	}
	for _, double := range []int{-1, 13, mostInt, leastInt} {
		l = append(l, changed(func(c *api.Calendar) { c.Years[2].Double = double }))
	}
	return append(l,
		changed(func(c *api.Calendar) { c.Kings[1] = "ur" }),
		changed(func(c *api.Calendar) { c.Kings = append(c.Kings, "ea", "si") }),
		changed(func(c *api.Calendar) { c.Years[0].King = 1 }),
		changed(func(c *api.Calendar) { c.Years[1].King = 1; c.Years[2].King = 0 }),
		changed(func(c *api.Calendar) { c.Years[1].Name = "wall" }),
		changed(func(c *api.Calendar) { c.Years[2].King = 0 }),
		changed(func(c *api.Calendar) { c.Years = append(c.Years, api.Year{King: 1, Name: "wall"}) }),
		changed(func(c *api.Calendar) {
			c.Years = append(c.Years, api.Year{King: 1, Name: "canal"}, api.Year{King: 1, Name: "a"}, api.Year{King: 1, Name: "canal"})
		}),
	)
}

// P7.1: Check, and the first error of all other functions with a calendar.
func TestCheck(t *testing.T) {
	for _, c := range validCalendars() {
		expectError(t, fmt.Sprintf("Check(%s)", brief(c)), date.Check(c), api.OK)
	}
	for _, c := range invalidCalendars() {
		wrong := arguments{c: c, a: day(-1, 0, 0), b: day(-1, 0, 0), t: api.DateTrace{Day: 31}, n: -1, names: kings(39), l: make([]api.DateTrace, 65)}
		right := arguments{c: c, a: day(0, 1, 1), b: day(0, 1, 2), n: 1, names: names("a"), l: make([]api.DateTrace, 2), further: "wall"}
		for _, x := range []arguments{wrong, right} {
			for name, call := range calls(x) {
				s, e := call()
				expect(t, fmt.Sprintf("%s with %s", name, brief(c)), s, e, "", api.ErrCalendar)
			}
		}
	}
}

// isValid reports whether a calendar is valid, as the chapter defines it.
func isValid(c api.Calendar) bool {
	if len(c.Kings) < 1 || len(c.Kings) > 40 || len(c.Years) < 1 || len(c.Years) > 400 {
		return false
	}
	for i, a := range c.Kings {
		for j, b := range c.Kings {
			if i != j && a == b {
				return false
			}
		}
	}
	for i, y := range c.Years {
		if y.King < 0 || y.King >= len(c.Kings) || i > 0 && y.King < c.Years[i-1].King {
			return false
		}
		if hasYear(api.Calendar{Years: c.Years[:i]}, y) {
			return false
		}
		if y.Double < 0 || y.Double > 12 || y.Long < 0 || y.Long > 8191 || y.Double == 0 && y.Long >= 4096 {
			return false
		}
	}
	return true
}

// P7.1
func TestCheckByDefinition(t *testing.T) {
	random := newRandom()
	valid := 0
	for range 5000 {
		c := randomCalendar(random)
		for range random.IntN(3) {
			y := &c.Years[random.IntN(len(c.Years))]
			switch random.IntN(5) {
			case 0:
				y.King = random.IntN(len(c.Kings)+2) - 1
			case 1:
				y.Name = pick(random, c.Years...).Name
			case 2:
				y.Double = random.IntN(15) - 1
			case 3:
				y.Long ^= 1 << random.IntN(14)
			case 4:
				c.Kings[random.IntN(len(c.Kings))] = pick(random, c.Kings...)
			}
		}
		want := api.ErrCalendar
		if isValid(c) {
			want = api.OK
			valid++
		}
		expectError(t, fmt.Sprintf("Check(%+v)", c), date.Check(c), want)
	}
	if valid < 1000 || valid > 4000 {
		t.Errorf("%d of 5000 calendars are valid", valid)
	}
}

// P7.1: ErrDate, for a, then for b; it comes before all errors but ErrCalendar.
func TestNoDates(t *testing.T) {
	withDate := names("Number", "Add", "Between", "Scheme", "Whole", "Fits")
	withTwo := names("Between", "Scheme")
	for _, c := range several() {
		for _, d := range noDates(c) {
			first := calls(arguments{c: c, a: d, b: day(0, 1, 1), t: api.DateTrace{Day: 31}, n: mostInt})
			for _, name := range withDate {
				s, e := first[name]()
				expect(t, fmt.Sprintf("%s(%v) in %v", name, d, c), s, e, "", api.ErrDate)
			}
			second := calls(arguments{c: c, a: day(0, 1, 1), b: d})
			both := calls(arguments{c: c, a: d, b: d})
			for _, name := range withTwo {
				s, e := second[name]()
				expect(t, fmt.Sprintf("%s(0/1/1, %v) in %v", name, d, c), s, e, "", api.ErrDate)
				s, e = both[name]()
				expect(t, fmt.Sprintf("%s(%v, %v) in %v", name, d, d, c), s, e, "", api.ErrDate)
			}
			is, e := date.In(c, d)
			expect(t, fmt.Sprintf("In(%v) of %v", d, c), is, e, false, api.OK)
		}
	}
}

// P7.1
func TestIn(t *testing.T) {
	for _, c := range several() {
		all := map[api.Date]bool{}
		for _, d := range dates(c) {
			all[d] = true
		}
		for year := -1; year <= len(c.Years); year++ {
			for month := -1; month <= 14; month++ {
				for n := -1; n <= 32; n++ {
					for _, d := range []api.Date{day(year, month, n), daySecond(year, month, n)} {
						is, e := date.In(c, d)
						expect(t, fmt.Sprintf("In(%v) of %v", d, c), is, e, all[d], api.OK)
					}
				}
			}
		}
	}
}

// P7.2
func TestLength(t *testing.T) {
	for _, c := range several() {
		for year, y := range c.Years {
			for _, month := range append([]int{mostInt, leastInt, -1, 0, 13, 14}, months()...) {
				want, e := 0, api.ErrNone
				if month >= 1 && month <= 12 {
					want, e = lengthOf(y, month-1), api.OK
				}
				n, got := date.Length(c, year, month, false)
				expect(t, fmt.Sprintf("Length(%v, %d, %d, false)", c, year, month), n, got, want, e)
				want, e = 0, api.ErrNone
				if month == y.Double && month != 0 {
					want, e = lengthOf(y, 12), api.OK
				}
				n, got = date.Length(c, year, month, true)
				expect(t, fmt.Sprintf("Length(%v, %d, %d, true)", c, year, month), n, got, want, e)
			}
		}
	}
}

func months() []int { return []int{1, 2, 3, 4, 5, 6, 7, 8, 9, 10, 11, 12} }

// P7.2, P7.5: an index of no year, before any other error.
func TestNoYears(t *testing.T) {
	for _, c := range several() {
		for _, year := range []int{-1, len(c.Years), mostInt, leastInt} {
			for _, name := range names("Length", "Days", "Reign") {
				s, e := calls(arguments{c: c, n: year})[name]()
				expect(t, fmt.Sprintf("%s(%d) of %v", name, year, c), s, e, "", api.ErrRange)
			}
			n, e := date.Length(c, year, 13, true)
			expect(t, fmt.Sprintf("Length(%v, %d, 13, true)", c, year), n, e, 0, api.ErrRange)
		}
	}
}

// P7.2, P7.12
func TestDays(t *testing.T) {
	for _, c := range several() {
		sum := 0
		for year := range c.Years {
			want := len(slices.DeleteFunc(dates(c), func(d api.Date) bool { return d.Year != year }))
			n, e := date.Days(c, year)
			expect(t, fmt.Sprintf("Days(%v, %d)", c, year), n, e, want, api.OK)
			if n < 348 || n > 390 {
				t.Errorf("a year of %v has %d days", c, n)
			}
			first, e := date.Number(c, day(year, 1, 1))
			expect(t, fmt.Sprintf("Number of the first day of the year %d of %v", year, c), first, e, sum+1, api.OK)
			sum += n
		}
		d, e := date.At(c, sum)
		expect(t, fmt.Sprintf("At(%v, %d)", c, sum), d, e, dates(c)[sum-1], api.OK)
		d, e = date.At(c, sum+1)
		expect(t, fmt.Sprintf("At(%v, %d)", c, sum+1), d, e, api.Date{}, api.ErrRange)
	}
	for _, x := range []struct {
		y    api.Year
		days int
	}{{api.Year{Name: "a"}, 348}, {api.Year{Name: "a", Long: 4095}, 360}, {api.Year{Name: "a", Double: 1}, 377}, {api.Year{Name: "a", Double: 12, Long: 4095}, 389}, {api.Year{Name: "a", Double: 12, Long: 4096}, 378}, {api.Year{Name: "a", Double: 6, Long: 8191}, 390}} {
		n, e := date.Days(lone(x.y), 0)
		expect(t, fmt.Sprintf("Days(%v)", x.y), n, e, x.days, api.OK)
	}
}

// The examples of the chapter: P7.2.
func TestLengthByExample(t *testing.T) {
	c := example()
	for year, want := range []int{360, 377, 360} {
		n, e := date.Days(c, year)
		expect(t, fmt.Sprintf("Days(c, %d)", year), n, e, want, api.OK)
	}
	n, e := date.Length(c, 1, 6, true)
	expect(t, "Length(c, 1, 6, true)", n, e, 29, api.OK)
	n, e = date.Length(c, 0, 6, true)
	expect(t, "Length(c, 0, 6, true)", n, e, 0, api.ErrNone)
}

// P7.1: names of 16 octets are names, and longer ones are not.
func TestLongNames(t *testing.T) {
	for n, want := range map[int]api.Errno{1: api.OK, 16: api.OK, 17: api.ErrCalendar, 70000: api.ErrCalendar} {
		name := strings.Repeat("a", n)
		expectError(t, fmt.Sprintf("Check with a king's name of %d octets", n), date.Check(changed(func(c *api.Calendar) { c.Kings[0] = name })), want)
		expectError(t, fmt.Sprintf("Check with a year's name of %d octets", n), date.Check(changed(func(c *api.Calendar) { c.Years[0].Name = name })), want)
	}
}
