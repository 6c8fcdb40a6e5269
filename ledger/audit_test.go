package ledger_test

import (
	"fmt"
	"math/rand/v2"
	"slices"
	"testing"

	"bulla/api"
	"bulla/ledger"
)

func issue(kind, period, deal int) api.Issue {
	return api.Issue{Kind: kind, Period: period, Deal: deal}
}

// stated returns a period without deals, with its opening and its closing lots.
func stated(holder string, from, to api.Date, opening, closing []api.Lot) api.Period {
	return api.Period{Holder: holder, From: from, To: to, Opening: opening, Closing: closing}
}

// P8.10
func TestAuditByExample(t *testing.T) {
	give, take := given(1, 2), taken(3, 4)
	give.Closing, take.Closing = lots("barley", -2), lots("barley", 2)
	one, two := lots("barley", 1), lots("barley", 2)
	first := stated("a", day(0, 1, 1), day(0, 1, 30), one, one)
	big := period("a", day(0, 1, 1), day(0, 1, 1), deal(day(0, 1, 1), "b", 1))
	big.Opening, big.Closing = lots("barley", 1<<40), nil
	for i, x := range []struct {
		l    []api.Period
		days int
		want []api.Issue
	}{
		{nil, 0, nil}, {[]api.Period{give, take}, 2, nil}, {[]api.Period{give, take}, 1, []api.Issue{issue(api.IssueDeal, 0, 0), issue(api.IssueDeal, 1, 1)}}, {[]api.Period{first}, 0, nil},
		// the sums
		{[]api.Period{stated("a", day(0, 1, 1), day(0, 1, 1), one, two)}, 0, []api.Issue{issue(api.IssueSum, 0, 0)}}, {[]api.Period{stated("a", day(0, 1, 1), day(0, 1, 1), one, nil)}, 0, []api.Issue{issue(api.IssueSum, 0, 0)}}, {[]api.Period{big}, 0, []api.Issue{issue(api.IssueSum, 0, 0)}},
		// the period before: of this holder, with the latest end before the beginning, also later in the list, the first one of several
		{[]api.Period{first, stated("a", day(0, 2, 1), day(0, 2, 1), one, one)}, 0, nil}, {[]api.Period{first, stated("a", day(1, 2, 1), day(1, 2, 1), two, two)}, 0, []api.Issue{issue(api.IssueOpening, 1, 0)}}, {[]api.Period{stated("a", day(0, 2, 1), day(0, 2, 1), two, two), first}, 0, []api.Issue{issue(api.IssueOpening, 0, 0)}},
		{[]api.Period{first, stated("b", day(0, 2, 1), day(0, 2, 1), two, two)}, 0, nil}, {[]api.Period{first, stated("a", day(0, 2, 1), day(0, 2, 1), one, one), stated("a", day(0, 2, 2), day(0, 2, 2), two, two), stated("a", day(0, 2, 3), day(0, 2, 3), two, two)}, 0, []api.Issue{issue(api.IssueOpening, 2, 0)}},
		{[]api.Period{stated("a", day(0, 1, 1), day(0, 1, 1), one, one), stated("a", day(0, 1, 1), day(0, 1, 1), two, two), stated("a", day(0, 1, 2), day(0, 1, 2), one, one)}, 0, []api.Issue{issue(api.IssueOverlap, 1, 0)}},
		{[]api.Period{stated("a", day(0, 1, 1), day(0, 1, 1), one, one), stated("a", day(0, 1, 1), day(0, 1, 1), two, two), stated("a", day(0, 1, 2), day(0, 1, 2), two, two)}, 0, []api.Issue{issue(api.IssueOverlap, 1, 0), issue(api.IssueOpening, 2, 0)}},
		// one day in common is no day before
		{[]api.Period{first, stated("a", day(0, 1, 30), day(0, 2, 1), two, two)}, 0, []api.Issue{issue(api.IssueOverlap, 1, 0)}}, {[]api.Period{stated("a", day(0, 1, 30), day(0, 2, 1), two, two), first}, 0, []api.Issue{issue(api.IssueOverlap, 1, 0)}}, {[]api.Period{first, stated("b", day(0, 1, 30), day(0, 2, 1), two, two)}, 0, nil},
		{[]api.Period{stated("a", day(0, 1, 1), day(0, 3, 1), one, one), stated("a", day(0, 2, 1), day(0, 2, 1), two, one), stated("a", day(0, 1, 15), day(0, 2, 15), one, one)}, 0, []api.Issue{issue(api.IssueSum, 1, 0), issue(api.IssueOverlap, 1, 0), issue(api.IssueOverlap, 2, 0)}},
		// all kinds, in their order
		{[]api.Period{stated("b", day(0, 1, 1), day(0, 12, 30), nil, nil), first, stated("a", day(0, 2, 1), day(0, 3, 1), one, one), {Holder: "a", From: day(0, 2, 30), To: day(0, 3, 1), Opening: two, Deals: []api.Deal{deal(day(0, 3, 1), "b", 1), deal(day(0, 3, 1), "c", 1), deal(day(0, 3, 1), "b", -1)}}}, 0, []api.Issue{issue(api.IssueSum, 3, 0), issue(api.IssueOpening, 3, 0), issue(api.IssueOverlap, 3, 0), issue(api.IssueDeal, 3, 0), issue(api.IssueDeal, 3, 2)}},
	} {
		l, e := ledger.Audit(example(), x.l, x.days)
		expect(t, fmt.Sprintf("Audit %d", i), l, e, x.want, api.OK)
	}
}

// P8.10: a deal without a counterpart is an issue only if a period of the other holder contains its day.
func TestAuditOfDeals(t *testing.T) {
	for i, x := range []struct {
		from, to api.Date
		want     bool
	}{{day(0, 1, 5), day(0, 1, 5), true}, {day(0, 1, 1), day(0, 1, 4), false}, {day(0, 1, 6), day(0, 2, 1), false}, {day(0, 1, 1), day(0, 1, 5), true}, {day(0, 1, 5), day(0, 12, 30), true}} {
		for _, n := range []int{1, -1} {
			p := period("a", day(0, 1, 5), day(0, 1, 5), deal(day(0, 1, 5), "b", n))
			p.Closing = lots("barley", n)
			var want []api.Issue
			if x.want {
				want = []api.Issue{issue(api.IssueDeal, 0, 0)}
			}
			l, e := ledger.Audit(example(), []api.Period{p, period("b", x.from, x.to)}, 1)
			expect(t, fmt.Sprintf("Audit %d of %d barley", i, n), l, e, want, api.OK)
			l, e = ledger.Audit(example(), []api.Period{p, period("b", day(1, 1, 1), day(1, 1, 1)), period("b", x.from, x.to), period("c", day(0, 1, 1), day(2, 12, 30))}, 1)
			expect(t, fmt.Sprintf("Audit %d of %d barley, with further periods", i, n), l, e, want, api.OK)
		}
	}
}

// issues returns the issues of an archive, as the chapter defines them.
func issues(c api.Calendar, l []api.Period, days int) []api.Issue {
	numbers := map[api.Date]int{}
	for i, d := range dates(c) {
		numbers[d] = i
	}
	contains := func(p api.Period, day int) bool { return numbers[p.From] <= day && day <= numbers[p.To] }
	matched := map[api.Ref]bool{}
	pairs, _ := ledger.Matching(c, l, days)
	for _, m := range pairs {
		matched[m.Out], matched[m.In] = true, true
	}
	var found []api.Issue
	for i, p := range l {
		if closing, e := ledger.Close(c, p); e != api.OK || !slices.Equal(closing, p.Closing) {
			found = append(found, issue(api.IssueSum, i, 0))
		}
		for day := numbers[p.From] - 1; day >= 0; day-- {
			j := slices.IndexFunc(l, func(q api.Period) bool { return q.Holder == p.Holder && numbers[q.To] == day })
			if j < 0 {
				continue
			}
			if !slices.Equal(l[j].Closing, p.Opening) {
				found = append(found, issue(api.IssueOpening, i, 0))
			}
			break
		}
		if slices.ContainsFunc(l[:i], func(q api.Period) bool {
			return q.Holder == p.Holder && slices.ContainsFunc(dates(c), func(d api.Date) bool { return contains(p, numbers[d]) && contains(q, numbers[d]) })
		}) {
			found = append(found, issue(api.IssueOverlap, i, 0))
		}
		for j, d := range p.Deals {
			if !matched[ref(i, j)] && slices.ContainsFunc(l, func(q api.Period) bool { return q.Holder == d.With && contains(q, numbers[d.On]) }) {
				found = append(found, issue(api.IssueDeal, i, j))
			}
		}
	}
	return found
}

// P8.10
func TestAuditByDefinition(t *testing.T) {
	random := newRandom()
	kinds := map[int]int{}
	for range 1000 {
		c := pick(random, example(), uneven())
		var l []api.Period
		for range 1 + random.IntN(3) {
			l = append(l, randomArchive(random, c, 3, pick(random, 1, 3, 10, 400))...)
		}
		for i := range l {
			if random.IntN(2) == 0 {
				l[i].Closing, _ = ledger.Close(c, l[i])
			}
		}
		days := random.IntN(5)
		got, e := ledger.Audit(c, l, days)
		expect(t, fmt.Sprintf("Audit(%+v, %d)", l, days), got, e, issues(c, l, days), api.OK)
		for _, x := range got {
			kinds[x.Kind]++
		}
	}
	for kind := api.IssueSum; kind <= api.IssueDeal; kind++ {
		if kinds[kind] < 100 {
			t.Errorf("only %d issues of the kind %d", kinds[kind], kind)
		}
	}
}

// carriedArchive returns an archive of several holders that was carried forward, holder by holder, in which each deal with a holder of the archive has a counterpart of its own.
func carriedArchive(t *testing.T, random *rand.Rand, c api.Calendar, days int) []api.Period {
	t.Helper()
	all := dates(c)
	holders := []string{"a", "b", "c"}
	cuts := []int{0, 20, 21, 50, 120} // where periods begin, and the last one ends
	deals := map[string]map[int][]api.Deal{"a": {}, "b": {}, "c": {}}
	add := func(holder, with string, on int, in bool, l []api.Lot) {
		deals[holder][on] = append(deals[holder][on], api.Deal{On: all[on], In: in, With: with, Lots: l})
	}
	for range random.IntN(20) {
		giver, taker := pick(random, holders...), pick(random, append(holders, "d")...)
		on, l := random.IntN(100), append(lots("a", 1), randomLots(random, 0, 1)...)
		if giver == taker {
			continue
		}
		add(giver, taker, on, false, l)
		if taker != "d" {
			add(taker, giver, on+random.IntN(days+1), true, slices.Clone(l))
		}
	}
	var archive []api.Period
	for _, holder := range holders {
		var periods []api.Period
		for i := range cuts[1:] {
			p := period(holder, all[cuts[i]], all[cuts[i+1]-1])
			for on := cuts[i]; on < cuts[i+1]; on++ {
				p.Deals = append(p.Deals, deals[holder][on]...)
			}
			periods = append(periods, p)
		}
		periods[0].Opening = randomLots(random, -1, 2)
		carried, e := ledger.Carry(c, periods)
		expectError(t, "Carry", e, api.OK)
		archive = append(archive, carried...)
	}
	return archive
}

// P8.16: no issue is reported of an archive that is in order.
func TestAuditOfAnArchiveInOrder(t *testing.T) {
	random := newRandom()
	for range 500 {
		c, days := pick(random, example(), uneven()), random.IntN(20)
		l := carriedArchive(t, random, c, days)
		random.Shuffle(len(l), func(i, j int) { l[i], l[j] = l[j], l[i] })
		got, e := ledger.Audit(c, l, days)
		expect(t, fmt.Sprintf("Audit(%+v, %d)", l, days), got, e, nil, api.OK)
	}
}
