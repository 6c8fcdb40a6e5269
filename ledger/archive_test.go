package ledger_test

import (
	"fmt"
	"math/rand/v2"
	"slices"
	"testing"
	"time"

	"bulla/api"
	"bulla/date"
	"bulla/ledger"
)

func ref(period, deal int) api.Ref { return api.Ref{Period: period, Deal: deal} }

func match(outPeriod, outDeal, inPeriod, inDeal int) api.Match {
	return api.Match{Out: ref(outPeriod, outDeal), In: ref(inPeriod, inDeal)}
}

// holding returns the period of a holder in which all deals are with one other holder: n of barley on a day of the first month is received, or given if n is negative.
func holding(holder, with string, l ...[2]int) api.Period {
	p := period(holder, day(0, 1, 1), day(0, 12, 30))
	for _, x := range l {
		p.Deals = append(p.Deals, deal(day(0, 1, x[0]), with, x[1]))
	}
	return p
}

// given returns the account of a, who gives one barley to b on each of some days, taken that of b, who receives it.
func given(days ...int) api.Period {
	p := holding("a", "b")
	for _, n := range days {
		p.Deals = append(p.Deals, deal(day(0, 1, n), "b", -1))
	}
	return p
}

func taken(days ...int) api.Period {
	p := holding("b", "a")
	for _, n := range days {
		p.Deals = append(p.Deals, deal(day(0, 1, n), "a", 1))
	}
	return p
}

// The examples of the chapter, and others: P8.9.
func TestMatchingByExample(t *testing.T) {
	for i, x := range []struct {
		l    []api.Period
		days int
		want []api.Match
	}{
		{nil, 400, nil}, {[]api.Period{given(1, 2)}, 400, nil},
		{[]api.Period{given(1, 2), taken(3)}, 2, []api.Match{match(0, 0, 1, 0)}},
		{[]api.Period{given(1, 2), taken(3, 4)}, 2, []api.Match{match(0, 0, 1, 0), match(0, 1, 1, 1)}},
		{[]api.Period{given(1, 2), taken(3, 4)}, 1, []api.Match{match(0, 1, 1, 0)}},
		{[]api.Period{taken(3, 4), given(1, 2)}, 2, []api.Match{match(1, 0, 0, 0), match(1, 1, 0, 1)}},
		{[]api.Period{given(5), taken(4)}, 400, nil}, {[]api.Period{given(5), taken(5)}, 0, []api.Match{match(0, 0, 1, 0)}}, {[]api.Period{given(5), taken(6)}, 0, nil}, {[]api.Period{given(5), taken(8)}, 3, []api.Match{match(0, 0, 1, 0)}}, {[]api.Period{given(5), taken(8)}, 2, nil},
		// the first one takes the first one with which as many pairs remain, not the first one of all
		{[]api.Period{given(1, 3), taken(3, 4)}, 2, []api.Match{match(0, 0, 1, 0), match(0, 1, 1, 1)}}, {[]api.Period{given(2, 3), taken(2, 3)}, 1, []api.Match{match(0, 0, 1, 0), match(0, 1, 1, 1)}}, {[]api.Period{given(3), given(2), taken(3, 4)}, 1, []api.Match{match(0, 0, 2, 1), match(1, 0, 2, 0)}},
		// the first one of the list is not the earliest one
		{[]api.Period{given(1), taken(4), taken(3)}, 3, []api.Match{match(0, 0, 1, 0)}}, {[]api.Period{given(4), given(3), taken(5)}, 3, []api.Match{match(0, 0, 2, 0)}},
		// a deal may be left without a counterpart by an earlier one, if a later one takes its place
		{[]api.Period{given(2), given(1), given(3), taken(2), taken(4)}, 2, []api.Match{match(0, 0, 3, 0), match(2, 0, 4, 0)}},
		// other givers, takers and lots do not count
		{[]api.Period{holding("a", "c", [2]int{1, -1}), taken(1)}, 1, nil}, {[]api.Period{given(1), holding("b", "c", [2]int{1, 1})}, 1, nil}, {[]api.Period{given(1), holding("c", "a", [2]int{1, 1})}, 1, nil},
		{[]api.Period{given(1), holding("b", "a", [2]int{1, 2})}, 1, nil}, {[]api.Period{given(1), given(1)}, 1, nil}, {[]api.Period{taken(1), holding("a", "b", [2]int{1, 1})}, 1, nil},
		{[]api.Period{holding("a", "b", [2]int{1, -1}, [2]int{1, -2}, [2]int{2, 5}), holding("b", "a", [2]int{1, -5}, [2]int{2, 2}, [2]int{2, 1})}, 1, []api.Match{match(0, 0, 1, 2), match(0, 1, 1, 1), match(1, 0, 0, 2)}},
	} {
		l, e := ledger.Matching(example(), x.l, x.days)
		expect(t, fmt.Sprintf("Matching %d", i), l, e, x.want, api.OK)
	}
}

// P8.9: all lots must be equal.
func TestMatchingOfLots(t *testing.T) {
	give := func(l []api.Lot) api.Period {
		return period("a", day(0, 1, 1), day(0, 1, 1), api.Deal{On: day(0, 1, 1), With: "b", Lots: l})
	}
	take := func(l []api.Lot) api.Period {
		return period("b", day(0, 1, 1), day(0, 1, 1), api.Deal{On: day(0, 1, 1), In: true, With: "a", Lots: l})
	}
	all := [][]api.Lot{lots("a", 1), lots("a", 11), lots("a1", 1), lots("a", 1, "b", 1), lots("a", 1, "b", 2), lots("b", 1), lots("a", 1, "b1", 2), lots("a", 1<<40), manyLots("a", 64), append(manyLots("a", 63), lots("a063", 2)...)}
	for i, x := range all {
		for j, y := range all {
			var want []api.Match
			if i == j {
				want = []api.Match{match(0, 0, 1, 0)}
			}
			l, e := ledger.Matching(example(), []api.Period{give(x), take(y)}, 0)
			expect(t, fmt.Sprintf("Matching of %v and %v", x, y), l, e, want, api.OK)
		}
	}
}

// P8.9: days are those of the calendar, also where a month has 29, or is doubled.
func TestMatchingCountsDays(t *testing.T) {
	c := uneven()
	all := dates(c)
	for _, from := range []int{0, 28, 29, 30, 58, 59, 380, 400, 800} {
		for _, n := range []int{0, 1, 2, 30, 59, 399, 400} {
			give, take := period("a", all[0], all[len(all)-1], deal(all[from], "b", -1)), period("b", all[0], all[len(all)-1], deal(all[from+n], "a", 1))
			for days := max(n-2, 0); days <= min(n+1, 400); days++ {
				var want []api.Match
				if days >= n {
					want = []api.Match{match(1, 0, 0, 0)}
				}
				l, e := ledger.Matching(c, []api.Period{take, give}, days)
				expect(t, fmt.Sprintf("Matching from %v to %v within %d", all[from], all[from+n], days), l, e, want, api.OK)
			}
		}
	}
}

// P8.9, P8.10: ErrRange.
func TestMatchingErrors(t *testing.T) {
	for _, days := range []int{-1, 401, mostInt, leastInt} {
		for _, l := range [][]api.Period{nil, {given(1), taken(1)}} {
			expectCalls(t, arguments{c: example(), l: l, days: days}, api.ErrRange, "Matching", "Audit")
		}
	}
}

// archive is what the tests know of an archive: which deals may match.
type archive struct {
	outs, ins []api.Ref
	may       map[api.Match]bool
}

func archiveOf(c api.Calendar, l []api.Period, days int) archive {
	a := archive{may: map[api.Match]bool{}}
	numbers := map[api.Date]int{}
	for i, d := range dates(c) {
		numbers[d] = i
	}
	for i, p := range l {
		for j, d := range p.Deals {
			if d.In {
				a.ins = append(a.ins, ref(i, j))
			} else {
				a.outs = append(a.outs, ref(i, j))
			}
		}
	}
	for _, out := range a.outs {
		for _, in := range a.ins {
			p, q := l[out.Period], l[in.Period]
			x, y := p.Deals[out.Deal], q.Deals[in.Deal]
			after := numbers[y.On] - numbers[x.On]
			if p.Holder != q.Holder && x.With == q.Holder && y.With == p.Holder && slices.Equal(x.Lots, y.Lots) && 0 <= after && after <= days {
				a.may[api.Match{Out: out, In: in}] = true
			}
		}
	}
	return a
}

// most returns how many pairs a matching of the deals that are not used can have: each out in turn goes without an in, or with any one.
func (a archive) most(outs []api.Ref, used map[api.Ref]bool) int {
	if len(outs) == 0 {
		return 0
	}
	most := a.most(outs[1:], used)
	for _, in := range a.ins {
		if !used[outs[0]] && !used[in] && a.may[api.Match{Out: outs[0], In: in}] {
			used[in] = true
			most = max(most, 1+a.most(outs[1:], used))
			delete(used, in)
		}
	}
	return most
}

// mostByPaths does so faster, by paths on which pairs are exchanged.
func (a archive) mostByPaths(outs []api.Ref, used map[api.Ref]bool) int {
	of := map[api.Ref]api.Ref{}
	var find func(out api.Ref, seen map[api.Ref]bool) bool
	find = func(out api.Ref, seen map[api.Ref]bool) bool {
		for _, in := range a.ins {
			if used[in] || seen[in] || !a.may[api.Match{Out: out, In: in}] {
				continue
			}
			seen[in] = true
			if other, is := of[in]; !is || find(other, seen) {
				of[in] = out
				return true
			}
		}
		return false
	}
	n := 0
	for _, out := range outs {
		if !used[out] && find(out, map[api.Ref]bool{}) {
			n++
		}
	}
	return n
}

// matching returns the matching of an archive, as the chapter determines it.
func (a archive) matching(most func(outs []api.Ref, used map[api.Ref]bool) int) []api.Match {
	var chosen []api.Match
	used := map[api.Ref]bool{}
	all := most(a.outs, used)
	for _, out := range a.outs {
		for _, in := range a.ins {
			m := api.Match{Out: out, In: in}
			if used[in] || !a.may[m] {
				continue
			}
			used[out], used[in] = true, true
			if len(chosen)+1+most(a.outs, used) == all {
				chosen = append(chosen, m)
				break
			}
			delete(used, out)
			delete(used, in)
		}
	}
	return chosen
}

// randomArchive returns periods of some days, with deals that often match: mostly a gives to b.
func randomArchive(random *rand.Rand, c api.Calendar, most, days int) []api.Period {
	all := dates(c)
	start := random.IntN(len(all) - 2*days - 2)
	var l []api.Period
	for range between(random, 2, 5) {
		holder := pick(random, "a", "a", "a", "b", "b", "b", "c")
		first := start + random.IntN(3)
		last := first + days
		p := period(holder, all[first], all[last])
		var on []int
		for range random.IntN(most + 1) {
			on = append(on, between(random, first, last))
		}
		slices.Sort(on)
		for _, n := range on {
			with := map[string]string{"a": "b", "b": "a", "c": pick(random, "a", "b")}[holder]
			sign := map[string]int{"a": -1, "b": 1, "c": 1}[holder]
			if random.IntN(8) == 0 {
				with, sign = pick(random, with, "d"), -sign
			}
			p.Deals = append(p.Deals, deal(all[n], with, sign*pick(random, 1, 1, 1, 2)))
		}
		p.Opening, p.Closing = randomLots(random, 0, 1), randomLots(random, 0, 1)
		l = append(l, p)
	}
	return l
}

// P8.9, P8.16: the matching of small archives is the one that the chapter determines, and none has more pairs.
func TestMatchingByDefinition(t *testing.T) {
	random := newRandom()
	pairs := 0
	for range 5000 {
		c := pick(random, example(), uneven())
		l := randomArchive(random, c, 4, 6)
		days := random.IntN(5)
		a := archiveOf(c, l, days)
		if len(a.may) > 24 {
			continue
		}
		got, e := ledger.Matching(c, l, days)
		expect(t, fmt.Sprintf("Matching(%+v, %d)", l, days), got, e, a.matching(a.most), api.OK)
		pairs += len(got)
	}
	if pairs < 2500 {
		t.Errorf("only %d pairs", pairs)
	}
}

// P8.9, P8.16: that of greater ones.
func TestMatchingByPaths(t *testing.T) {
	random := newRandom()
	pairs := 0
	for range 1000 {
		c := pick(random, example(), uneven())
		l := randomArchive(random, c, 10, 12)
		days := random.IntN(8)
		a := archiveOf(c, l, days)
		got, e := ledger.Matching(c, l, days)
		expect(t, fmt.Sprintf("Matching(%+v, %d)", l, days), got, e, a.matching(a.mostByPaths), api.OK)
		pairs += len(got)
	}
	if pairs < 1500 {
		t.Errorf("only %d pairs", pairs)
	}
}

// P8.16: within more days there are not fewer pairs.
func TestMoreDaysMorePairs(t *testing.T) {
	random := newRandom()
	for range 300 {
		c := pick(random, example(), uneven())
		l := randomArchive(random, c, 12, 20)
		before := 0
		for days := range 25 {
			got, e := ledger.Matching(c, l, days)
			if e != api.OK || len(got) < before {
				t.Errorf("Matching(%+v, %d): %d pairs, error %d; %d within less", l, days, len(got), e, before)
			}
			before = len(got)
		}
	}
}

// great returns 16 periods of a holder with 64 deals each: order says which part of the deals each period has, and on the days on which they are.
func great(c api.Calendar, order func(i int) int, on func(i int) int, in bool) []api.Period {
	var l []api.Period
	n := map[bool]int{false: -1, true: 1}[in]
	for i := range 16 {
		p := api.Period{Holder: "a", From: day(0, 1, 1), To: day(399, 12, 30)}
		with := "b"
		if in {
			p.Holder, with = "b", "a"
		}
		for j := range 64 {
			d, _ := date.At(c, 1+on(64*order(i)+j))
			p.Deals = append(p.Deals, deal(d, with, n))
		}
		l = append(l, p)
	}
	return l
}

// P8.9: 1024 deals, and as many counterparts, are matched fast: each of them can have only the one of its day, any one, or only later ones.
func TestGreatMatchings(t *testing.T) {
	c := largest()
	same := func(i int) int { return i }
	back := func(i int) int { return 15 - i }
	for name, x := range map[string]struct {
		l    []api.Period
		days int
		want func(i int) api.Ref // that of the i-th deal
		n    int
	}{
		"the same days, backwards": {append(great(c, same, same, false), great(c, back, same, true)...), 400, func(i int) api.Ref { return ref(31-i/64, i%64) }, 1024},
		"all backwards":            {append(great(c, back, same, false), great(c, back, same, true)...), 400, func(i int) api.Ref { return ref(16+i/64, i%64) }, 1024},
		"one day":                  {append(great(c, same, func(int) int { return 9 }, false), great(c, same, func(int) int { return 9 }, true)...), 0, func(i int) api.Ref { return ref(16+i/64, i%64) }, 1024},
		"shifted by a day":         {append(great(c, same, same, false), great(c, same, func(i int) int { return i + 1 }, true)...), 1, func(i int) api.Ref { return ref(16+i/64, i%64) }, 1024},
		"too early":                {append(great(c, same, func(i int) int { return i + 1024 }, false), great(c, same, same, true)...), 400, nil, 0},
	} {
		start := time.Now()
		l, e := ledger.Matching(c, x.l, x.days)
		expectError(t, name, e, api.OK)
		if len(l) != x.n {
			t.Errorf("%s: %d pairs; want %d", name, len(l), x.n)
		}
		for i, m := range l {
			if m != (api.Match{Out: ref(i/64, i%64), In: x.want(i)}) {
				t.Fatalf("%s: %v is matched with %v; want %v", name, m.Out, m.In, x.want(i))
			}
		}
		if d := time.Since(start); d > 3*time.Second {
			t.Errorf("%s: Matching takes %v", name, d)
		}
		issues, e := ledger.Audit(c, x.l, x.days)
		expectError(t, name, e, api.OK)
		if len(issues) != 32+30+2048-2*len(l) { // each sum is wrong, and all periods of a holder but the first one overlap
			t.Errorf("%s: %d issues", name, len(issues))
		}
		t.Log(name, len(l), time.Since(start))
	}
}
