package ledger

import (
	"cmp"

	"bulla/api"
	"bulla/metro"
)

// Needed returns the worker-days of tasks.
func Needed(t []api.Task) (api.Ratio, api.Errno) {
	return workerDays(t, taskValid, func(x api.Task) (api.Ratio, api.Errno) { return metro.Div(x.Amount, x.Rate) })
}

func taskValid(x api.Task) bool { return isAmount(x.Amount) && isPositive(x.Rate) }

// Available returns the worker-days of crews.
func Available(c api.Calendar, w []api.Crew) (api.Ratio, api.Errno) {
	a, e := newAuditor(c)
	if e != api.OK {
		return api.Ratio{}, e
	}
	return a.available(w)
}

func (a auditor) available(w []api.Crew) (api.Ratio, api.Errno) {
	return workerDays(w, a.crewValid, func(x api.Crew) (api.Ratio, api.Errno) {
		return metro.Product([]api.Ratio{whole(x.Workers), x.Share, whole(a.workdays(x.From, x.To))})
	})
}

func (a auditor) crewValid(x api.Crew) bool {
	return 0 <= x.Workers && x.Workers <= api.MaxWorkers && isPart(x.Share) && a.inOrder(x.From, x.To)
}

// workdays returns how many schematic days there are from one day to another one, both included.
func (a auditor) workdays(from, to api.Date) int { return a.scheme(from, to) + 1 }

// workerDays adds up the worker-days of tasks, or of crews.
func workerDays[T any](l []T, isValid func(T) bool, of func(T) (api.Ratio, api.Errno)) (api.Ratio, api.Errno) {
	if len(l) > api.MaxTasks {
		return api.Ratio{}, api.ErrLimit
	}
	for _, x := range l {
		if !isValid(x) {
			return api.Ratio{}, api.ErrWork
		}
	}
	sum := whole(0)
	for _, x := range l {
		n, e := of(x)
		if e != api.OK {
			return api.Ratio{}, e
		}
		if sum, e = metro.Add(sum, n); e != api.OK {
			return api.Ratio{}, e
		}
	}
	return sum, api.OK
}

// Balance returns the worker-days of crews less those of tasks.
func Balance(c api.Calendar, t []api.Task, w []api.Crew) (api.Ratio, api.Errno) {
	a, e := newAuditor(c)
	if e != api.OK {
		return api.Ratio{}, e
	}
	needed, errNeeded := Needed(t)
	available, errAvailable := a.available(w)
	if e = cmp.Or(errNeeded, errAvailable); e != api.OK {
		return api.Ratio{}, e
	}
	return metro.Sub(available, needed)
}

// Fewest returns the smallest number of workers that suffices.
func Fewest(c api.Calendar, t []api.Task, share api.Ratio, from, to api.Date) (int, api.Errno) {
	a, e := newAuditor(c)
	if e != api.OK {
		return 0, e
	}
	needed, e := Needed(t)
	switch {
	case e != api.OK:
		return 0, e
	case !isPart(share) || share.N == 0 || !a.inOrder(from, to):
		return 0, api.ErrWork
	}
	// A ratio's parts, and the days of a calendar, are small enough for an int to hold both products.
	workers := roundedUp(needed.N*share.D, needed.D*share.N*a.workdays(from, to))
	if workers > api.MaxWorkers {
		return 0, api.ErrRange
	}
	return workers, api.OK
}
