package ledger

import (
	"cmp"
	"slices"

	"bulla/account"
	"bulla/api"
	"bulla/date"
	"bulla/metro"
)

// CheckPeriod checks a period.
func CheckPeriod(c api.Calendar, p api.Period) api.Errno {
	_, e := periodAuditor(c, p)
	return e
}

// periodAuditor returns the auditor of valid periods, or the first error of a function with them.
func periodAuditor(c api.Calendar, l ...api.Period) (auditor, api.Errno) {
	a, e := newAuditor(c)
	return a, cmp.Or(e, a.checkPeriods(l))
}

func (a auditor) checkPeriods(l []api.Period) api.Errno {
	for _, p := range l {
		if !a.periodValid(p) {
			return api.ErrPeriod
		}
	}
	return api.OK
}

func (a auditor) periodValid(p api.Period) bool {
	if !metro.IsName(p.Holder) || !lotsValid(p.Opening) || !lotsValid(p.Closing) || len(p.Deals) > api.MaxDeals {
		return false
	}
	days := []api.Date{p.From}
	for _, d := range p.Deals {
		if !metro.IsName(d.With) || d.With == p.Holder || len(d.Lots) == 0 || !lotsValid(d.Lots) || !allPositive(d.Lots) {
			return false
		}
		days = append(days, d.On)
	}
	return a.inOrder(append(days, p.To)...)
}

func lotsValid(l []api.Lot) bool { return account.CheckLots(l) == api.OK }

// Close returns the balance of a period.
func Close(c api.Calendar, p api.Period) ([]api.Lot, api.Errno) {
	if e := CheckPeriod(c, p); e != api.OK {
		return nil, e
	}
	return balance(p)
}

func balance(p api.Period) ([]api.Lot, api.Errno) {
	lots := slices.Clone(p.Opening)
	for _, d := range p.Deals {
		change := account.Sub
		if d.In {
			change = account.Add
		}
		var e api.Errno
		if lots, e = change(lots, d.Lots); e != api.OK {
			return nil, e
		}
	}
	return lots, api.OK
}

// Divide divides a period after a day.
func Divide(c api.Calendar, p api.Period, last api.Date) (a, b api.Period, e api.Errno) {
	x, e := periodAuditor(c, p)
	if e = cmp.Or(e, x.checkLast(p, last)); e != api.OK {
		return api.Period{}, api.Period{}, e
	}
	n := 0 // the deals of the first part
	for n < len(p.Deals) && x.inOrder(p.Deals[n].On, last) {
		n++
	}
	a = api.Period{Holder: p.Holder, From: p.From, To: last, Opening: p.Opening, Deals: p.Deals[:n]}
	if a.Closing, e = balance(a); e != api.OK {
		return api.Period{}, api.Period{}, e
	}
	b = api.Period{Holder: p.Holder, To: p.To, Opening: a.Closing, Deals: p.Deals[n:], Closing: p.Closing}
	b.From, _ = date.Add(c, last, 1)
	return copied(a), copied(b), api.OK
}

// checkLast checks the last day of the first part of a period.
func (a auditor) checkLast(p api.Period, last api.Date) api.Errno {
	n, is := a.number(last)
	switch {
	case !is:
		return api.ErrDate
	case n < a.day(p.From) || n >= a.day(p.To):
		return api.ErrRange
	}
	return api.OK
}

// copied returns a copy of a period with memory of its own.
func copied(p api.Period) api.Period {
	p.Opening, p.Deals, p.Closing = slices.Clone(p.Opening), slices.Clone(p.Deals), slices.Clone(p.Closing)
	for i, d := range p.Deals {
		p.Deals[i].Lots = slices.Clone(d.Lots)
	}
	return p
}

// Join joins a period and the one that follows it.
func Join(c api.Calendar, a, b api.Period) (api.Period, api.Errno) {
	x, e := periodAuditor(c, a, b)
	switch {
	case e != api.OK:
		return api.Period{}, e
	case !x.continues(a, b) || !slices.Equal(a.Closing, b.Opening):
		return api.Period{}, api.ErrFollow
	case len(a.Deals)+len(b.Deals) > api.MaxDeals:
		return api.Period{}, api.ErrLimit
	}
	return copied(api.Period{Holder: a.Holder, From: a.From, To: b.To, Opening: a.Opening, Deals: slices.Concat(a.Deals, b.Deals), Closing: b.Closing}), api.OK
}

// continues reports whether b is of the holder of a and begins on the day after its end.
func (x auditor) continues(a, b api.Period) bool {
	return a.Holder == b.Holder && x.day(b.From) == x.day(a.To)+1
}

// Carry carries balances forward through periods.
func Carry(c api.Calendar, l []api.Period) ([]api.Period, api.Errno) {
	a, e := newAuditor(c)
	if e = cmp.Or(e, a.checkList(l)); e != api.OK {
		return nil, e
	}
	var carried []api.Period
	for i, p := range l {
		if i > 0 {
			if !a.continues(carried[i-1], p) {
				return nil, api.ErrFollow
			}
			p.Opening = carried[i-1].Closing
		}
		if p.Closing, e = balance(p); e != api.OK {
			return nil, e
		}
		carried = append(carried, copied(p))
	}
	return carried, api.OK
}

// checkList checks a list of periods, of which there may be as many as in an archive.
func (a auditor) checkList(l []api.Period) api.Errno {
	if len(l) > api.MaxPeriods {
		return api.ErrLimit
	}
	return a.checkPeriods(l)
}
