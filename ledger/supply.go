package ledger

import (
	"bulla/account"
	"bulla/api"
)

// mostMonths is for how many months rations are calculated.
const mostMonths = 1200

// Rations returns the rations of classes of people for some months.
func Rations(l []api.Class, months int) ([]api.Lot, api.Errno) {
	if len(l) > api.MaxClasses {
		return nil, api.ErrLimit
	}
	for _, x := range l {
		if e := checkClass(x); e != api.OK {
			return nil, e
		}
	}
	if months < 0 || months > mostMonths {
		return nil, api.ErrRange
	}
	var sum []api.Lot
	for _, x := range l {
		lots, e := account.Scale(x.Ration, x.Count*months)
		if e != api.OK {
			return nil, e
		}
		if sum, e = account.Add(sum, lots); e != api.OK {
			return nil, e
		}
	}
	return sum, api.OK
}

func checkClass(x api.Class) api.Errno {
	if x.Count < 0 || x.Count > api.MaxNum {
		return api.ErrRange
	}
	if e := account.CheckLots(x.Ration); e != api.OK {
		return e
	}
	if !allPositive(x.Ration) {
		return api.ErrRange
	}
	return api.OK
}

// allPositive reports whether no lot is negative (no valid one is 0).
func allPositive(l []api.Lot) bool {
	for _, x := range l {
		if x.N <= 0 {
			return false
		}
	}
	return true
}

// Grow returns a herd after some years.
func Grow(h api.Herd, births, deaths api.Ratio, years int) (api.Herd, api.Errno) {
	switch {
	case !herdValid(h):
		return api.Herd{}, api.ErrHerd
	case !isPart(births) || !isPart(deaths):
		return api.Herd{}, api.ErrArg
	case years < 0 || years > api.MaxGrow:
		return api.Herd{}, api.ErrRange
	}
	for range years {
		h = afterYear(h, births, deaths)
		if !herdValid(h) {
			return api.Herd{}, api.ErrBig
		}
	}
	return h, api.OK
}

func herdValid(h api.Herd) bool {
	return min(h.Ewes, h.Rams, h.Lambs) >= 0 && max(h.Ewes, h.Rams, h.Lambs) <= api.MaxHerd
}

func afterYear(h api.Herd, births, deaths api.Ratio) api.Herd {
	remaining := func(n int) int { return n - n*deaths.N/deaths.D }
	ewes, lambs := remaining(h.Ewes), remaining(h.Lambs)
	rams := lambs / 2
	return api.Herd{Ewes: ewes + lambs - rams, Rams: remaining(h.Rams) + rams, Lambs: ewes * births.N / births.D}
}
