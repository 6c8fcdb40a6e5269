package ledger

import (
	"cmp"

	"bulla/api"
	"bulla/metro"
)

// CheckLoan checks a loan and its payments.
func CheckLoan(c api.Calendar, l api.Loan, p []api.Payment) api.Errno {
	a, e := newAuditor(c)
	return cmp.Or(e, a.checkLoan(l, p))
}

func (a auditor) checkLoan(l api.Loan, p []api.Payment) api.Errno {
	if len(p) > api.MaxPayments {
		return api.ErrLimit
	}
	days := []api.Date{l.From}
	for _, x := range p {
		if !isPositive(x.N) {
			return api.ErrLoan
		}
		days = append(days, x.On)
	}
	if !isPositive(l.Principal) || !isPart(l.Rate) || !a.inOrder(days...) {
		return api.ErrLoan
	}
	return api.OK
}

// checkDay checks a day on which a debt is asked for.
func (a auditor) checkDay(l api.Loan, on api.Date) api.Errno {
	n, is := a.number(on)
	switch {
	case !is:
		return api.ErrDate
	case n < a.day(l.From):
		return api.ErrRange
	}
	return api.OK
}

// Owed returns the debt of a loan on a day.
func Owed(c api.Calendar, l api.Loan, p []api.Payment, on api.Date) (api.Debt, api.Errno) {
	a, e := newAuditor(c)
	if e = cmp.Or(e, a.checkLoan(l, p), a.checkDay(l, on)); e != api.OK {
		return api.Debt{}, e
	}
	debt := api.Debt{Principal: l.Principal, Interest: whole(0), Surplus: whole(0)}
	last := l.From
	accrue := func(to api.Date) api.Errno {
		n, e := Interest(debt.Principal, l.Rate, a.scheme(last, to))
		if e != api.OK {
			return e
		}
		last = to
		debt.Interest, e = metro.Add(debt.Interest, n)
		return e
	}
	end := a.day(on)
	for _, x := range p {
		if a.day(x.On) > end {
			break
		}
		e = accrue(x.On)
		if e == api.OK {
			debt, e = paid(debt, x.N)
		}
		if e != api.OK {
			return api.Debt{}, e
		}
	}
	if e = accrue(on); e != api.OK {
		return api.Debt{}, e
	}
	return debt, api.OK
}

// paid returns a debt after a payment.
func paid(d api.Debt, n api.Ratio) (api.Debt, api.Errno) {
	interest, n, e := reduced(d.Interest, n)
	if e != api.OK {
		return api.Debt{}, e
	}
	principal, n, e := reduced(d.Principal, n)
	if e != api.OK {
		return api.Debt{}, e
	}
	surplus, e := metro.Add(d.Surplus, n)
	return api.Debt{Principal: principal, Interest: interest, Surplus: surplus}, e
}

// reduced returns what is owed after a payment, and what is left of the payment.
func reduced(owed, payment api.Ratio) (rest, left api.Ratio, e api.Errno) {
	rest, e = metro.Sub(owed, payment)
	if rest.N < 0 {
		return whole(0), api.Ratio{N: -rest.N, D: rest.D}, e
	}
	return rest, whole(0), e
}

// Settle returns what is to be paid on a day.
func Settle(c api.Calendar, l api.Loan, p []api.Payment, on api.Date) (api.Ratio, api.Errno) {
	debt, e := Owed(c, l, p, on)
	if e != api.OK {
		return api.Ratio{}, e
	}
	return metro.Add(debt.Principal, debt.Interest)
}
