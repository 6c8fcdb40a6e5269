package ledger

import (
	"slices"

	"bulla/api"
)

// Audit returns the issues of an archive.
func Audit(c api.Calendar, l []api.Period, days int) ([]api.Issue, api.Errno) {
	a, e := newArchive(c, l, days)
	if e != api.OK {
		return nil, e
	}
	matched := map[api.Ref]bool{}
	for _, m := range a.matching(days) {
		matched[m.Out], matched[m.In] = true, true
	}
	unmatched := func(period int) []api.Issue {
		var found []api.Issue
		for i, d := range l[period].Deals {
			if !matched[api.Ref{Period: period, Deal: i}] && a.has(d.With, a.day(d.On)) {
				found = append(found, api.Issue{Kind: api.IssueDeal, Period: period, Deal: i})
			}
		}
		return found
	}
	var found []api.Issue
	for i := range l {
		found = append(found, collected(i, a.sums, a.openings, a.overlaps, unmatched)...)
	}
	return found, api.OK
}

// collected returns the issues that several checks of a period find, in the order of the checks.
func collected(period int, checks ...func(period int) []api.Issue) []api.Issue {
	var found []api.Issue
	for _, check := range checks {
		found = append(found, check(period)...)
	}
	return found
}

// issueIf returns an issue of a period if there is one.
func issueIf(is bool, kind, period int) []api.Issue {
	if !is {
		return nil
	}
	return []api.Issue{{Kind: kind, Period: period}}
}

func (a archive) sums(period int) []api.Issue {
	p := a.periods[period]
	lots, e := balance(p)
	return issueIf(e != api.OK || !slices.Equal(lots, p.Closing), api.IssueSum, period)
}

func (a archive) openings(period int) []api.Issue {
	before := a.previous(period)
	return issueIf(before != none && !slices.Equal(a.periods[period].Opening, a.periods[before].Closing), api.IssueOpening, period)
}

// previous returns the period before a period.
func (a archive) previous(period int) int {
	before := none
	for _, i := range a.holders[a.periods[period].Holder] {
		if a.spans[i].Last < a.spans[period].First && (before == none || a.spans[i].Last > a.spans[before].Last) {
			before = i
		}
	}
	return before
}

func (a archive) overlaps(period int) []api.Issue {
	s := a.spans[period]
	return issueIf(slices.ContainsFunc(a.holders[a.periods[period].Holder], func(i int) bool {
		return i < period && a.spans[i].First <= s.Last && s.First <= a.spans[i].Last
	}), api.IssueOverlap, period)
}

// has reports whether a period of a holder contains a day.
func (a archive) has(holder string, day int) bool {
	return slices.ContainsFunc(a.holders[holder], func(i int) bool { return a.spans[i].First <= day && day <= a.spans[i].Last })
}
