package ledger_test

import (
	"fmt"
	"math/big"
	"math/rand/v2"
	"slices"
	"strings"
	"testing"

	"bulla/api"
	"bulla/ledger"
)

const (
	mostInt  = 1<<63 - 1
	leastInt = -1 << 63
	longest  = "z_9aaaaaaaaaaaaa" // a name that no further character would leave a name
)

// notNames are texts that are no names.
func notNames() []string {
	return []string{"", "A", "1a", "_a", "a-b", "a b", " a", longest + "a", "ä", "a\x00"}
}

// example returns the calendar c of the chapter's examples.
func example() api.Calendar {
	return api.Calendar{Kings: []string{"ur"}, Years: []api.Year{{Name: "a", Long: 4095}, {Name: "b", Long: 4095}, {Name: "c", Long: 4095}}}
}

// uneven returns a calendar of several kings, months of 29 and 30 days, and doubled months.
func uneven() api.Calendar {
	return api.Calendar{Kings: []string{"ur", "ea", "si"}, Years: []api.Year{{King: 0, Name: "a", Long: 1365, Double: 1}, {King: 0, Name: "b"}, {King: 2, Name: "a", Long: 8191, Double: 12}, {King: 2, Name: "b", Long: 4000, Double: 6}}}
}

// largest returns a calendar of 400 years of 390 days.
func largest() api.Calendar {
	var c api.Calendar
	for k := range api.MaxKings {
		c.Kings = append(c.Kings, fmt.Sprint("king", k))
		for i := range api.MaxYears / api.MaxKings {
			c.Years = append(c.Years, api.Year{King: k, Name: fmt.Sprint("year_of_a_wall", i), Long: 8191, Double: 1 + (k+i)%12})
		}
	}
	return c
}

// badCalendars are invalid ones.
func badCalendars() []api.Calendar {
	twice, long, king := example(), example(), example()
	twice.Years[2].Name = "a"
	long.Years[0].Long = 4096
	king.Years[1].King = 1
	return []api.Calendar{{}, {Kings: []string{"ur"}}, twice, long, king}
}

// dates returns all days of a calendar in order.
func dates(c api.Calendar) []api.Date {
	var l []api.Date
	add := func(d api.Date, long int) {
		for d.Day = 1; d.Day <= 29+long&1; d.Day++ {
			l = append(l, d)
		}
	}
	for year, y := range c.Years {
		for month := 1; month <= 12; month++ {
			add(api.Date{Year: year, Month: month}, y.Long>>(month-1))
			if month == y.Double {
				add(api.Date{Year: year, Month: month, Second: true}, y.Long>>12)
			}
		}
	}
	return l
}

// number returns the number of a day.
func number(c api.Calendar, d api.Date) int { return slices.Index(dates(c), d) + 1 }

// schematic returns the schematic days from a to b: each month is left on its first day.
func schematic(c api.Calendar, a, b api.Date) int {
	days := b.Day - a.Day
	for _, d := range dates(c)[number(c, a):number(c, b)] {
		if d.Day == 1 {
			days += 30
		}
	}
	return days
}

// noDates are no dates of the example's calendar, nor of the uneven one.
func noDates() []api.Date {
	return []api.Date{{}, day(-1, 1, 1), day(4, 1, 1), day(0, 0, 1), day(0, 13, 1), day(0, 1, 0), day(0, 1, 31), day(1, 1, -1), {Year: 1, Month: 1, Second: true, Day: 1}, day(mostInt, 1, 1), day(leastInt, 1, 1), day(0, mostInt, 1), day(0, 1, mostInt), day(0, leastInt, 1), day(0, 1, leastInt)}
}

func day(year, month, day int) api.Date { return api.Date{Year: year, Month: month, Day: day} }

func r(n, d int) api.Ratio { return api.Ratio{N: n, D: d} }

func rat(q api.Ratio) *big.Rat { return big.NewRat(int64(q.N), int64(q.D)) }

func whole(n int) *big.Rat { return big.NewRat(int64(n), 1) }

func sum(x, y *big.Rat) *big.Rat { return new(big.Rat).Add(x, y) }

func less(x, y *big.Rat) *big.Rat { return new(big.Rat).Sub(x, y) }

func times(l ...*big.Rat) *big.Rat {
	x := whole(1)
	for _, y := range l {
		x.Mul(x, y)
	}
	return x
}

func over(x, y *big.Rat) *big.Rat { return new(big.Rat).Quo(x, y) }

// ceiling returns x, which is not negative, rounded up.
func ceiling(x *big.Rat) *big.Int {
	n := new(big.Int).Sub(new(big.Int).Add(x.Num(), x.Denom()), big.NewInt(1))
	return n.Quo(n, x.Denom())
}

// fitted returns the ratio of x, or ErrBig if it has none, by the definition.
func fitted(x *big.Rat) (api.Ratio, api.Errno) {
	n, d := new(big.Int).Abs(x.Num()), x.Denom()
	if n.Cmp(big.NewInt(1<<40)) > 0 || d.Cmp(big.NewInt(1<<20)) > 0 {
		return api.Ratio{}, api.ErrBig
	}
	return r(int(x.Num().Int64()), int(d.Int64())), api.OK
}

// has reports whether x has a ratio.
func has(x *big.Rat) bool {
	_, e := fitted(x)
	return e == api.OK
}

// amounts are ratios that are not negative, parts those from 0 to 1, each small ones and those at the limits.
func amounts() []api.Ratio {
	return append(parts(), r(2, 1), r(7, 1), r(60, 1), r(7, 3), r(360, 1), r(359, 1), r(361, 2), r(1<<20+1, 1<<20), r(1<<40-1, 1<<20), r(1<<40-1, 1), r(1<<40, 1), r(1<<40, 7))
}

func parts() []api.Ratio {
	return []api.Ratio{r(0, 1), r(1, 1), r(1, 2), r(1, 3), r(1, 5), r(4, 5), r(1, 60), r(1, 1<<20), r(1, 1<<20-1), r(1<<20-1, 1<<20), r(1<<19-1, 1<<19)}
}

// notParts are no ratios from 0 to 1.
func notParts() []api.Ratio { return append(notAmounts(), r(2, 1), r(1<<20, 1<<20-1), r(1<<40, 1)) }

// notAmounts are no ratios, or negative ones.
func notAmounts() []api.Ratio {
	return []api.Ratio{{}, r(1, 0), r(0, 2), r(0, -1), r(2, 4), r(1, -2), r(-1, -1), r(-1, 1), r(-1, 1<<20), r(-1<<40, 1), r(1<<40+1, 1), r(1, 1<<20+1), r(leastInt, 1), r(mostInt, 1), r(1, mostInt), r(1, leastInt), r(mostInt, mostInt), r(leastInt, leastInt)}
}

// positive returns those of some ratios that are not zero.
func positive(l []api.Ratio) []api.Ratio {
	return slices.DeleteFunc(l, func(q api.Ratio) bool { return q.N == 0 })
}

// lots returns lots that are given as goods, each followed by an amount.
func lots(l ...any) []api.Lot {
	var all []api.Lot
	for i := 0; i < len(l); i += 2 {
		all = append(all, api.Lot{Good: l[i].(string), N: l[i+1].(int)})
	}
	return all
}

// manyLots returns n lots of one.
func manyLots(prefix string, n int) []api.Lot {
	var l []api.Lot
	for i := range n {
		l = append(l, api.Lot{Good: fmt.Sprintf("%s%03d", prefix, i), N: 1})
	}
	return l
}

// badLots are invalid lists of lots.
func badLots() [][]api.Lot {
	l := [][]api.Lot{lots("a", 0), lots("b", 1, "a", 1), lots("a", 1, "a", 1), lots("a", 1<<40+1), lots("a", mostInt), lots("a", 1, "c", 1, "b", 1), manyLots("a", 65)}
	for _, name := range notNames() {
		l = append(l, lots(name, 1))
	}
	return l
}

// show writes a value out (nil and empty lists look the same).
func show(x any) string { return fmt.Sprintf("%+v", x) }

// expect compares the result of a call with the value wanted, which with an error is the zero value (R2, R3).
func expect[T any](t *testing.T, call string, got T, gotError api.Errno, want T, wantError api.Errno) {
	t.Helper()
	if show(got) != show(want) || gotError != wantError {
		t.Errorf("%.1000s: %.500s, error %d; want %.500s, error %d", call, show(got), gotError, show(want), wantError)
	}
}

func expectError(t *testing.T, call string, got, want api.Errno) {
	t.Helper()
	if got != want {
		t.Errorf("%.1000s: error %d; want %d", call, got, want)
	}
}

// arguments are those of all functions of the package with a calendar.
type arguments struct {
	c     api.Calendar
	loan  api.Loan
	paid  []api.Payment
	on    api.Date
	tasks []api.Task
	crews []api.Crew
	share api.Ratio
	p, q  api.Period
	l     []api.Period
	days  int
}

// calls are all functions of the package with a calendar. Each returns what is not zero of its result.
func calls(x arguments) map[string]func() (string, api.Errno) {
	divided := func() ([]api.Period, api.Errno) {
		a, b, e := ledger.Divide(x.c, x.p, x.on)
		if show(a) == show(api.Period{}) && show(b) == show(api.Period{}) {
			return nil, e
		}
		return []api.Period{a, b}, e
	}
	return map[string]func() (string, api.Errno){
		"CheckLoan":   func() (string, api.Errno) { return "", ledger.CheckLoan(x.c, x.loan, x.paid) },
		"Owed":        func() (string, api.Errno) { return shown(ledger.Owed(x.c, x.loan, x.paid, x.on)) },
		"Settle":      func() (string, api.Errno) { return shown(ledger.Settle(x.c, x.loan, x.paid, x.on)) },
		"Available":   func() (string, api.Errno) { return shown(ledger.Available(x.c, x.crews)) },
		"Balance":     func() (string, api.Errno) { return shown(ledger.Balance(x.c, x.tasks, x.crews)) },
		"Fewest":      func() (string, api.Errno) { return shown(ledger.Fewest(x.c, x.tasks, x.share, x.p.From, x.p.To)) },
		"CheckPeriod": func() (string, api.Errno) { return "", ledger.CheckPeriod(x.c, x.p) },
		"Close":       func() (string, api.Errno) { return shown(ledger.Close(x.c, x.p)) },
		"Divide":      func() (string, api.Errno) { return shown(divided()) },
		"Join":        func() (string, api.Errno) { return shown(ledger.Join(x.c, x.p, x.q)) },
		"Carry":       func() (string, api.Errno) { return shown(ledger.Carry(x.c, x.l)) },
		"Matching":    func() (string, api.Errno) { return shown(ledger.Matching(x.c, x.l, x.days)) },
		"Audit":       func() (string, api.Errno) { return shown(ledger.Audit(x.c, x.l, x.days)) },
	}
}

// expectCalls expects an error of some of the functions with a calendar.
func expectCalls(t *testing.T, x arguments, want api.Errno, functions ...string) {
	t.Helper()
	all := calls(x)
	for _, name := range functions {
		s, e := all[name]()
		expect(t, fmt.Sprintf("%s with %+v", name, x), s, e, "", want)
	}
}

// shown writes a result out, if it is not its zero value.
func shown[T any](x T, e api.Errno) (string, api.Errno) {
	var zero T
	return strings.TrimPrefix(show(x), show(zero)), e
}

// right returns valid arguments, with which no function has an error.
func right() arguments {
	p := period("a", day(0, 1, 1), day(0, 2, 30), deal(day(0, 1, 5), "b", 5), deal(day(0, 2, 1), "b", -20))
	q := period("a", day(0, 3, 1), day(0, 3, 1))
	return arguments{
		c: example(), on: day(0, 1, 30), share: r(1, 2), p: p, q: q, l: []api.Period{p, q}, days: 400,
		loan:  api.Loan{Principal: r(60, 1), Rate: r(1, 5), From: day(0, 1, 1)},
		paid:  []api.Payment{{On: day(0, 7, 1), N: r(10, 1)}},
		tasks: []api.Task{{Amount: r(10, 1), Rate: r(1, 3)}},
		crews: []api.Crew{{Workers: 2, Share: r(1, 2), From: day(0, 1, 1), To: day(0, 1, 30)}},
	}
}

func period(holder string, from, to api.Date, deals ...api.Deal) api.Period {
	return api.Period{Holder: holder, From: from, To: to, Deals: deals}
}

// deal returns a deal with barley that is received, or given if n is negative.
func deal(on api.Date, with string, n int) api.Deal {
	return api.Deal{On: on, In: n > 0, With: with, Lots: lots("barley", max(n, -n))}
}

func newRandom() *rand.Rand { return rand.New(rand.NewPCG(8, 20)) }

func pick[T any](random *rand.Rand, l ...T) T { return l[random.IntN(len(l))] }

// between returns a number from a to b.
func between(random *rand.Rand, a, b int) int { return a + random.IntN(b-a+1) }

// P8.2: ErrCalendar, before all other errors.
func TestBadCalendars(t *testing.T) {
	wrong := arguments{paid: make([]api.Payment, 65), tasks: make([]api.Task, 65), crews: make([]api.Crew, 65), l: make([]api.Period, 33), days: -1}
	for name, call := range calls(right()) {
		if _, e := call(); e != api.OK {
			t.Errorf("%s: error %d", name, e)
		}
	}
	for _, c := range badCalendars() {
		for _, x := range []arguments{wrong, right()} {
			x.c = c
			for name := range calls(x) {
				expectCalls(t, x, api.ErrCalendar, name)
			}
		}
	}
}
