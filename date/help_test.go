package date_test

import (
	"fmt"
	"math/rand/v2"
	"slices"
	"strings"
	"testing"

	"bulla/api"
	"bulla/date"
)

const (
	mostInt  = 1<<63 - 1
	leastInt = -1 << 63
)

// longest is a name that no further character would leave a name.
const longest = "z_9aaaaaaaaaaaaa"

// example returns the calendar c of the chapter's examples.
func example() api.Calendar {
	return api.Calendar{Kings: names("ur", "si"), Years: []api.Year{{King: 0, Name: "wall", Long: 4095}, {King: 0, Name: "canal", Double: 6}, {King: 1, Name: "wall", Long: 4095}}}
}

// largest returns a calendar of 400 years of 390 days.
func largest() api.Calendar {
	var c api.Calendar
	for k := range api.MaxKings {
		c.Kings = append(c.Kings, fmt.Sprint("king", k))
		for i := range api.MaxYears / api.MaxKings {
			c.Years = append(c.Years, api.Year{King: k, Name: fmt.Sprint("year_of_a_wall", i), Long: 8191, Double: 1 + (k+i)%12})
		}
	}
	return c
}

// lone returns a calendar of one king and one year.
func lone(y api.Year) api.Calendar {
	return api.Calendar{Kings: names("ur"), Years: []api.Year{y}}
}

// several returns calendars of all kinds: also one in which kings have no years.
func several() []api.Calendar {
	random := newRandom()
	l := []api.Calendar{
		example(), lone(api.Year{Name: "a"}), lone(api.Year{Name: "a", Long: 8191, Double: 12}), lone(api.Year{Name: "a", Long: 4096, Double: 1}),
		{Kings: names("ur", "ea", "si", "lu"), Years: []api.Year{{King: 1, Name: "a", Long: 5}, {King: 1, Name: "b", Double: 12, Long: 2048}, {King: 3, Name: "b"}, {King: 3, Name: "a"}}},
	}
	for range 20 {
		l = append(l, randomCalendar(random))
	}
	return l
}

// randomCalendar returns a calendar of a few kings and years, of which some have the same name.
func randomCalendar(random *rand.Rand) api.Calendar {
	all := names("ur", "si", "lu", "ea", longest)
	random.Shuffle(len(all), func(i, j int) { all[i], all[j] = all[j], all[i] })
	c := api.Calendar{Kings: all[:1+random.IntN(len(all))]}
	king := 0
	for range 1 + random.IntN(7) {
		if random.IntN(3) == 0 {
			king = min(king+1+random.IntN(2), len(c.Kings)-1)
		}
		y := api.Year{King: king, Name: pick(random, names("wall", "canal", "ur", "a", longest)...), Long: random.IntN(1 << 12)}
		if random.IntN(2) == 0 {
			y.Double = 1 + random.IntN(12)
			y.Long += random.IntN(2) << 12
		}
		if !hasYear(c, y) {
			c.Years = append(c.Years, y)
		}
	}
	return c
}

// hasYear reports whether a year of the same king has the same name.
func hasYear(c api.Calendar, y api.Year) bool {
	return slices.ContainsFunc(c.Years, func(x api.Year) bool { return x.King == y.King && x.Name == y.Name })
}

// randomTrace returns a valid trace, of which often something fits a calendar.
func randomTrace(random *rand.Rand, c api.Calendar) api.DateTrace {
	var t api.DateTrace
	if random.IntN(2) == 0 {
		t.Day, t.More = pick(random, 1, 2, 15, 28, 29, 30), random.IntN(2) == 0
	}
	if random.IntN(2) == 0 {
		t.Month, t.Second = 1+random.IntN(12), random.IntN(3) == 0
		if double := pick(random, c.Years...).Double; t.Second && double != 0 {
			t.Month = double
		}
	}
	if random.IntN(2) == 0 {
		t.Name, t.After = pick(random, pick(random, c.Years...).Name, pick(random, c.Years...).Name, "b"), pick(random, 0, 0, 1, 2, 3)
	}
	if random.IntN(3) == 0 {
		t.King = pick(random, append(names("b"), c.Kings...)...)
	}
	return t
}

func randomDate(random *rand.Rand, c api.Calendar) api.Date { return pick(random, dates(c)...) }

// dates returns all days of a calendar in order, as the chapter defines them.
func dates(c api.Calendar) []api.Date {
	var l []api.Date
	for year, y := range c.Years {
		for month := 1; month <= 12; month++ {
			for day := 1; day <= lengthOf(y, month-1); day++ {
				l = append(l, api.Date{Year: year, Month: month, Day: day})
			}
			if month != y.Double {
				continue
			}
			for day := 1; day <= lengthOf(y, 12); day++ {
				l = append(l, api.Date{Year: year, Month: month, Second: true, Day: day})
			}
		}
	}
	return l
}

// lengthOf returns how many days the month with a bit of Long has.
func lengthOf(y api.Year, bit int) int {
	if y.Long&(1<<bit) != 0 {
		return 30
	}
	return 29
}

func day(year, month, day int) api.Date { return api.Date{Year: year, Month: month, Day: day} }

// daySecond returns a day of the second one of two months.
func daySecond(year, month, day int) api.Date {
	return api.Date{Year: year, Month: month, Second: true, Day: day}
}

// noDates are no dates of a calendar, all of whose years have more than one month that is not doubled.
func noDates(c api.Calendar) []api.Date {
	n := len(c.Years)
	l := []api.Date{{}, day(0, 1, 0), day(0, 1, 31), day(0, 1, -1), day(0, 0, 1), day(0, 13, 1), day(0, -1, 1), day(-1, 1, 1), day(n, 1, 1), day(0, 1, mostInt), day(0, 1, leastInt), day(0, mostInt, 1), day(0, leastInt, 1), day(mostInt, 1, 1), day(leastInt, 1, 1), daySecond(0, 0, 1), daySecond(0, 13, 1), daySecond(n, 1, 1)}
	for i, y := range c.Years {
		l = append(l, day(i, 7, lengthOf(y, 6)+1), day(i, 7, 0), daySecond(i, y.Double%12+1, 1))
		if y.Double != 0 {
			l = append(l, daySecond(i, y.Double, lengthOf(y, 12)+1), daySecond(i, y.Double, 0))
		}
	}
	return l
}

func names(l ...string) []string { return l }

func trace(t *testing.T, s string) api.DateTrace {
	t.Helper()
	x, e := date.Parse(s)
	if e != api.OK {
		t.Fatalf("Parse(%s): error %d", s, e)
	}
	return x
}

func traces(t *testing.T, l ...string) []api.DateTrace {
	t.Helper()
	var all []api.DateTrace
	for _, s := range l {
		all = append(all, trace(t, s))
	}
	return all
}

func span(first, last int) api.Span { return api.Span{First: first, Last: last} }

func spans(l ...api.Span) []api.Span { return l }

// brief writes a calendar out, unless it is a great one.
func brief(c api.Calendar) string {
	if len(c.Years) > 20 {
		return fmt.Sprintf("a calendar of %d years", len(c.Years))
	}
	return show(c)
}

// show writes a value out (nil and empty lists look the same).
func show(x any) string { return fmt.Sprintf("%+v", x) }

// expect compares the result of a call with the value wanted, which with an error is the zero value (R2, R3).
func expect[T any](t *testing.T, call string, got T, gotError api.Errno, want T, wantError api.Errno) {
	t.Helper()
	if show(got) != show(want) || gotError != wantError {
		t.Errorf("%s: %.500s, error %d; want %.500s, error %d", call, show(got), gotError, show(want), wantError)
	}
}

func expectError(t *testing.T, call string, got, want api.Errno) {
	t.Helper()
	if got != want {
		t.Errorf("%s: error %d; want %d", call, got, want)
	}
}

// arguments are those of all functions of the package with a calendar.
type arguments struct {
	c       api.Calendar
	a, b    api.Date
	t       api.DateTrace
	n       int
	names   []string
	l       []api.DateTrace
	further string
}

// calls are all functions of the package with a calendar. Each returns what is not zero of its result.
func calls(x arguments) map[string]func() (string, api.Errno) {
	reign := func() ([]any, api.Errno) {
		king, n, e := date.Reign(x.c, x.n)
		if king == "" && n == 0 {
			return nil, e
		}
		return []any{king, n}, e
	}
	return map[string]func() (string, api.Errno){
		"Check":   func() (string, api.Errno) { return "", date.Check(x.c) },
		"In":      func() (string, api.Errno) { return shown(date.In(x.c, x.a)) },
		"Length":  func() (string, api.Errno) { return shown(date.Length(x.c, x.n, 1, false)) },
		"Days":    func() (string, api.Errno) { return shown(date.Days(x.c, x.n)) },
		"Number":  func() (string, api.Errno) { return shown(date.Number(x.c, x.a)) },
		"At":      func() (string, api.Errno) { return shown(date.At(x.c, x.n)) },
		"Add":     func() (string, api.Errno) { return shown(date.Add(x.c, x.a, x.n)) },
		"Between": func() (string, api.Errno) { return shown(date.Between(x.c, x.a, x.b)) },
		"Scheme":  func() (string, api.Errno) { return shown(date.Scheme(x.c, x.a, x.b)) },
		"Reign":   func() (string, api.Errno) { return shownList(reign()) },
		"YearOf":  func() (string, api.Errno) { return shown(date.YearOf(x.c, x.further, x.n)) },
		"Named":   func() (string, api.Errno) { return shownList(date.Named(x.c, x.further, "")) },
		"Whole":   func() (string, api.Errno) { return shown(date.Whole(x.c, x.a)) },
		"Fits":    func() (string, api.Errno) { return shown(date.Fits(x.c, x.t, x.a)) },
		"Spans":   func() (string, api.Errno) { return shownList(date.Spans(x.c, x.t)) },
		"Series":  func() (string, api.Errno) { return shownList(date.Series(x.c, x.l)) },
		"Extend": func() (string, api.Errno) {
			c, e := date.Extend(x.c, x.names, x.n)
			return strings.TrimPrefix(show(c), show(api.Calendar{})), e
		},
	}
}

// shown writes a result out, if it is not its zero value.
func shown[T comparable](x T, e api.Errno) (string, api.Errno) {
	var zero T
	if x == zero {
		return "", e
	}
	return show(x), e
}

func shownList[T any](l []T, e api.Errno) (string, api.Errno) {
	if len(l) == 0 {
		return "", e
	}
	return show(l), e
}

func newRandom() *rand.Rand { return rand.New(rand.NewPCG(7, 20)) }

func pick[T any](random *rand.Rand, l ...T) T { return l[random.IntN(len(l))] }
