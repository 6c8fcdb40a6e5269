package ledger_test

import (
	"fmt"
	"math/big"
	"math/rand/v2"
	"testing"

	"bulla/api"
	"bulla/ledger"
)

func loan(principal, rate api.Ratio, from api.Date) api.Loan {
	return api.Loan{Principal: principal, Rate: rate, From: from}
}

func payment(on api.Date, n api.Ratio) api.Payment { return api.Payment{On: on, N: n} }

func debt(principal, interest, surplus api.Ratio) api.Debt {
	return api.Debt{Principal: principal, Interest: interest, Surplus: surplus}
}

func payments(n int) []api.Payment {
	var l []api.Payment
	for i := range n {
		l = append(l, payment(day(0, 1+i/30, 1+i%30), r(1, 1)))
	}
	return l
}

// P8.2
func TestCheckLoan(t *testing.T) {
	c := example()
	usual := loan(r(60, 1), r(1, 5), day(0, 1, 1))
	for _, x := range []struct {
		l api.Loan
		p []api.Payment
	}{
		{usual, nil}, {usual, []api.Payment{}}, {usual, payments(64)}, {usual, []api.Payment{payment(day(0, 1, 1), r(1, 1<<20)), payment(day(0, 1, 1), r(1<<40, 1)), payment(day(2, 12, 30), r(1, 1)), payment(day(2, 12, 30), r(1, 1))}},
		{loan(r(1, 1<<20), r(0, 1), day(2, 12, 30)), nil}, {loan(r(1<<40, 1), r(1, 1), day(2, 12, 30)), []api.Payment{payment(day(2, 12, 30), r(1, 1))}},
	} {
		expectError(t, show(x), ledger.CheckLoan(c, x.l, x.p), api.OK)
	}
	var bad []arguments
	wrong := func(l api.Loan, p ...api.Payment) {
		bad = append(bad, arguments{c: c, loan: l, paid: p, on: day(-1, 1, 1)}, arguments{c: c, loan: l, paid: p, on: day(2, 1, 1)})
	}
	for _, q := range append(notAmounts(), r(0, 1)) {
		wrong(loan(q, r(1, 5), day(0, 1, 1)))
		wrong(usual, payment(day(0, 1, 1), q))
		wrong(usual, payment(day(0, 1, 1), r(1, 1)), payment(day(0, 1, 1), q), payment(day(0, 1, 1), r(1, 1)))
	}
	for _, q := range notParts() {
		wrong(loan(r(60, 1), q, day(0, 1, 1)))
	}
	for _, d := range noDates() {
		wrong(loan(r(60, 1), r(1, 5), d))
		wrong(usual, payment(d, r(1, 1)))
		wrong(usual, payment(day(0, 1, 1), r(1, 1)), payment(d, r(1, 1)))
	}
	wrong(loan(r(60, 1), r(1, 5), day(0, 1, 2)), payment(day(0, 1, 1), r(1, 1)))
	wrong(usual, payment(day(1, 1, 1), r(1, 1)), payment(day(0, 12, 30), r(1, 1)))
	wrong(usual, payment(day(0, 1, 1), r(1, 1)), payment(day(0, 1, 3), r(1, 1)), payment(day(0, 1, 2), r(1, 1)))
	for _, x := range bad {
		expectCalls(t, x, api.ErrLoan, "CheckLoan", "Owed", "Settle")
	}
}

// P8.2: ErrLimit, ErrLoan, ErrDate, ErrRange, in this order.
func TestLoanErrors(t *testing.T) {
	usual := loan(r(60, 1), r(1, 5), day(1, 1, 1))
	for _, l := range []api.Loan{usual, {}} {
		for _, p := range [][]api.Payment{payments(65), make([]api.Payment, 65), make([]api.Payment, 100000)} {
			expectCalls(t, arguments{c: example(), loan: l, paid: p, on: day(-1, 1, 1)}, api.ErrLimit, "CheckLoan", "Owed", "Settle")
		}
	}
	for _, d := range noDates() {
		expectCalls(t, arguments{c: example(), loan: usual, on: d}, api.ErrDate, "Owed", "Settle")
	}
	for _, d := range []api.Date{day(0, 12, 30), day(0, 1, 1)} {
		expectCalls(t, arguments{c: example(), loan: usual, on: d}, api.ErrRange, "Owed", "Settle")
		huge := loan(r(1<<40, 1<<20-1), r(1, 1<<20), day(1, 1, 1))
		expectCalls(t, arguments{c: example(), loan: huge, on: d}, api.ErrRange, "Owed", "Settle")
	}
}

// The examples of the chapter: P8.2.
func TestOwedByExample(t *testing.T) {
	c, l := example(), loan(r(60, 1), r(1, 5), day(0, 1, 1))
	p := []api.Payment{payment(day(0, 7, 1), r(10, 1)), payment(day(1, 7, 1), r(100, 1))}
	for _, x := range []struct {
		n    int
		on   api.Date
		want api.Debt
	}{
		{0, day(0, 1, 1), debt(r(60, 1), r(0, 1), r(0, 1))}, {1, day(0, 7, 1), debt(r(56, 1), r(0, 1), r(0, 1))}, {1, day(1, 7, 1), debt(r(56, 1), r(56, 5), r(0, 1))},
		{2, day(1, 7, 1), debt(r(0, 1), r(0, 1), r(164, 5))}, {2, day(1, 6, 30), debt(r(56, 1), r(2513, 225), r(0, 1))}, {2, day(2, 12, 30), debt(r(0, 1), r(0, 1), r(164, 5))},
	} {
		got, e := ledger.Owed(c, l, p[:x.n], x.on)
		expect(t, fmt.Sprintf("Owed after %d payments on %v", x.n, x.on), got, e, x.want, api.OK)
	}
	got, e := ledger.Settle(c, l, p[:1], day(1, 7, 1))
	expect(t, "Settle", got, e, r(336, 5), api.OK)
}

// P8.2: the parts of a payment go to the interest, to the principal and to the surplus, in this order.
func TestPayments(t *testing.T) {
	c, l := example(), loan(r(60, 1), r(1, 5), day(0, 1, 1)) // an interest of 1/30 each day, 12 a year
	next := day(1, 1, 1)
	for _, x := range []struct {
		paid []api.Ratio
		want api.Debt
	}{
		{[]api.Ratio{r(5, 1)}, debt(r(60, 1), r(7, 1), r(0, 1))}, {[]api.Ratio{r(12, 1)}, debt(r(60, 1), r(0, 1), r(0, 1))}, {[]api.Ratio{r(13, 1)}, debt(r(59, 1), r(0, 1), r(0, 1))}, {[]api.Ratio{r(72, 1)}, debt(r(0, 1), r(0, 1), r(0, 1))},
		{[]api.Ratio{r(73, 1)}, debt(r(0, 1), r(0, 1), r(1, 1))}, {[]api.Ratio{r(5, 1), r(5, 1)}, debt(r(60, 1), r(2, 1), r(0, 1))}, {[]api.Ratio{r(5, 1), r(8, 1), r(61, 1), r(3, 1)}, debt(r(0, 1), r(0, 1), r(5, 1))},
	} {
		var p []api.Payment
		for _, n := range x.paid {
			p = append(p, payment(next, n))
		}
		got, e := ledger.Owed(c, l, p, next)
		expect(t, fmt.Sprintf("Owed after the payments of %v", x.paid), got, e, x.want, api.OK)
		got, e = ledger.Owed(c, l, p, day(0, 12, 30))
		expect(t, fmt.Sprintf("Owed before the payments of %v", x.paid), got, e, debt(r(60, 1), r(359, 30), r(0, 1)), api.OK)
	}
}

// defined is the debt of a loan, as the chapter defines it, with the interest of all time and whether all calculations have ratios.
type defined struct {
	principal, interest, surplus, all *big.Rat
	fits                              bool
}

func (d *defined) note(l ...*big.Rat) {
	for _, x := range l {
		d.fits = d.fits && has(x)
	}
}

func (d *defined) accrue(rate api.Ratio, days int) {
	n := over(times(d.principal, rat(rate), whole(days)), whole(360))
	d.note(n)
	d.interest = sum(d.interest, n)
	d.note(d.interest)
	d.all = sum(d.all, n)
}

func (d *defined) pay(n *big.Rat) {
	for _, part := range []**big.Rat{&d.interest, &d.principal} {
		paid := n
		if paid.Cmp(*part) > 0 {
			paid = *part
		}
		*part, n = less(*part, paid), less(n, paid)
		d.note(*part, n)
	}
	d.surplus = sum(d.surplus, n)
	d.note(d.surplus)
}

func owed(c api.Calendar, l api.Loan, p []api.Payment, on api.Date) *defined {
	d := &defined{rat(l.Principal), whole(0), whole(0), whole(0), true}
	last := l.From
	for _, x := range p {
		if number(c, x.On) <= number(c, on) {
			d.accrue(l.Rate, schematic(c, last, x.On))
			d.pay(rat(x.N))
			last = x.On
		}
	}
	d.accrue(l.Rate, schematic(c, last, on))
	return d
}

// randomLoan returns a loan, payments in order, and a day on which the loan is asked about.
func randomLoan(random *rand.Rand, c api.Calendar) (api.Loan, []api.Payment, api.Date) {
	all := dates(c)
	from := random.IntN(len(all))
	l := loan(pick(random, r(60, 1), r(7, 3), r(1, 60), r(100000, 1), r(1<<40, 1), r(1, 1<<20)), pick(random, r(1, 5), r(1, 3), r(0, 1), r(1, 1), r(1, 12), r(1, 9)), all[from])
	var p []api.Payment
	at := from
	for range random.IntN(5) {
		at = min(at+pick(random, 0, 1, 29, 30, 60, between(random, 0, 500)), len(all)-1)
		p = append(p, payment(all[at], pick(random, r(1, 1), r(5, 1), r(1, 2), r(60, 1), r(7, 3), r(100000, 1), r(1<<40, 1), r(1, 1<<20), r(between(random, 1, 80), 1))))
	}
	on := pick(random, from, at, between(random, from, len(all)-1), len(all)-1)
	return l, p, all[on]
}

// P8.2, P8.13: nothing is lost.
func TestOwedByDefinition(t *testing.T) {
	random := newRandom()
	big := 0
	for range 2000 {
		c := pick(random, example(), uneven())
		l, p, on := randomLoan(random, c)
		d := owed(c, l, p, on)
		var want api.Debt
		settle, wantError := api.Ratio{}, api.ErrBig
		if d.fits {
			want.Principal, _ = fitted(d.principal)
			want.Interest, _ = fitted(d.interest)
			want.Surplus, _ = fitted(d.surplus)
			settle, wantError = fitted(sum(d.principal, d.interest))
		} else {
			big++
		}
		call := fmt.Sprintf("Owed(%v, %v, %v)", l, p, on)
		got, e := ledger.Owed(c, l, p, on)
		if d.fits {
			expect(t, call, got, e, want, api.OK)
		} else {
			expect(t, call, got, e, want, api.ErrBig)
		}
		q, e := ledger.Settle(c, l, p, on)
		expect(t, "Settle: "+call, q, e, settle, wantError)
		paid := whole(0)
		for _, x := range p {
			if number(c, x.On) <= number(c, on) {
				paid = sum(paid, rat(x.N))
			}
		}
		if e == api.OK && sum(paid, sum(rat(got.Principal), rat(got.Interest))).Cmp(sum(sum(rat(l.Principal), d.all), rat(got.Surplus))) != 0 {
			t.Errorf("%s: %+v loses something", call, got)
		}
	}
	if big < 150 || big > 1800 {
		t.Errorf("%d of 2000 debts are too big", big)
	}
}

// P8.2: ErrBig at each calculation: the interest of a stretch, the sums of interest and of surplus, what is left of a payment, and what Settle adds up.
func TestDebtsThatAreTooBig(t *testing.T) {
	c := example()
	most, least := r(1<<40, 1), r(1, 1<<20)
	first, next := day(0, 1, 1), day(0, 2, 1)
	for i, x := range []struct {
		l      api.Loan
		p      []api.Payment
		on     api.Date
		owed   api.Debt
		e      api.Errno
		settle api.Ratio
		eSet   api.Errno
	}{
		{loan(least, r(1, 5), first), nil, first, debt(least, r(0, 1), r(0, 1)), api.OK, least, api.OK},
		{loan(least, r(1, 5), first), nil, next, api.Debt{}, api.ErrBig, r(0, 0), api.ErrBig},
		{loan(least, r(0, 1), first), nil, next, debt(least, r(0, 1), r(0, 1)), api.OK, least, api.OK},
		{loan(most, r(1, 1), first), nil, day(1, 1, 1), debt(most, most, r(0, 1)), api.OK, r(0, 0), api.ErrBig},
		{loan(most, r(1, 1), first), nil, day(1, 1, 2), api.Debt{}, api.ErrBig, r(0, 0), api.ErrBig},
		{loan(most, r(1, 1), first), []api.Payment{payment(next, r(1<<38, 3))}, next, debt(most, r(0, 1), r(0, 1)), api.OK, most, api.OK},
		{loan(most, r(1, 1), first), []api.Payment{payment(next, most)}, next, api.Debt{}, api.ErrBig, r(0, 0), api.ErrBig},
		{loan(r(1, 1), r(0, 1), first), []api.Payment{payment(first, most), payment(first, r(1, 1))}, first, debt(r(0, 1), r(0, 1), most), api.OK, r(0, 1), api.OK},
		{loan(r(1, 1), r(0, 1), first), []api.Payment{payment(first, most), payment(first, r(2, 1))}, first, api.Debt{}, api.ErrBig, r(0, 0), api.ErrBig},
		{loan(r(1, 3), r(0, 1), first), []api.Payment{payment(first, least)}, first, api.Debt{}, api.ErrBig, r(0, 0), api.ErrBig},
		{loan(least, r(0, 1), first), []api.Payment{payment(first, r(1, 3))}, first, api.Debt{}, api.ErrBig, r(0, 0), api.ErrBig},
		{loan(r(1, 3), r(0, 1), first), []api.Payment{payment(next, least)}, first, debt(r(1, 3), r(0, 1), r(0, 1)), api.OK, r(1, 3), api.OK},
		{loan(r(1, 1<<19), r(1, 1), first), []api.Payment{payment(day(0, 7, 1), r(1, 3))}, day(0, 7, 1), api.Debt{}, api.ErrBig, r(0, 0), api.ErrBig},
	} {
		got, e := ledger.Owed(c, x.l, x.p, x.on)
		expect(t, fmt.Sprintf("Owed %d", i), got, e, x.owed, x.e)
		q, e := ledger.Settle(c, x.l, x.p, x.on)
		expect(t, fmt.Sprintf("Settle %d", i), q, e, x.settle, x.eSet)
	}
}

// P8.12: without payments, what is to be paid does not become less.
func TestSettleGrows(t *testing.T) {
	random := newRandom()
	for range 300 {
		c := pick(random, example(), uneven())
		l, _, _ := randomLoan(random, c)
		before := rat(l.Principal)
		for _, on := range dates(c)[number(c, l.From)-1:] {
			if random.IntN(40) != 0 {
				continue
			}
			n, e := ledger.Settle(c, l, nil, on)
			if e == api.OK && rat(n).Cmp(before) < 0 {
				t.Errorf("Settle(%v, %v): %v, after %v", l, on, n, before)
			}
			if e == api.OK {
				before = rat(n)
			}
		}
	}
}

// P8.13: what is to be paid on a day, and is paid after all other payments, leaves no debt on that day, or later, and no surplus.
func TestSettled(t *testing.T) {
	random := newRandom()
	settled := 0
	for range 2000 {
		c := pick(random, example(), uneven())
		l, p, _ := randomLoan(random, c)
		all := dates(c)[number(c, l.From)-1:]
		if len(p) > 0 {
			all = dates(c)[number(c, p[len(p)-1].On)-1:]
		}
		on := pick(random, all...)
		before, e := ledger.Owed(c, l, p, on)
		n, f := ledger.Settle(c, l, p, on)
		if e != api.OK || f != api.OK || n.N == 0 {
			continue
		}
		settled++
		after := append(p, payment(on, n))
		for _, later := range []api.Date{on, all[len(all)-1]} {
			got, e := ledger.Owed(c, l, after, later)
			expect(t, fmt.Sprintf("Owed(%v, %v, %v)", l, after, later), got, e, debt(r(0, 1), r(0, 1), before.Surplus), api.OK)
		}
	}
	if settled < 200 {
		t.Errorf("only %d loans were settled", settled)
	}
}

// P8.2: 64 payments in the greatest calendar.
func TestManyPayments(t *testing.T) {
	c := largest()
	l := loan(r(1000, 1), r(0, 1), day(0, 1, 1))
	var p []api.Payment
	for i := range 64 {
		p = append(p, payment(day(6*i, 12, 30), r(10, 1)))
	}
	got, e := ledger.Owed(c, l, p, day(399, 12, 30))
	expect(t, "Owed after 64 payments", got, e, debt(r(360, 1), r(0, 1), r(0, 1)), api.OK)
	l.Rate = r(1, 5)
	got, e = ledger.Owed(c, l, nil, day(399, 12, 30))
	expect(t, "Owed after 400 years", got, e, debt(r(1000, 1), r((400*390-1)*5, 9), r(0, 1)), api.OK)
}
