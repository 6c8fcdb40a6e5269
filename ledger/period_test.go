package ledger_test

import (
	"fmt"
	"math/rand/v2"
	"slices"
	"testing"

	"bulla/account"
	"bulla/api"
	"bulla/ledger"
)

// usual returns a valid period, in which lots can be changed.
func usual() api.Period {
	p := period("a", day(0, 1, 1), day(0, 2, 30), deal(day(0, 1, 5), "b", 5), deal(day(0, 2, 1), "c", -20))
	p.Opening, p.Closing = lots("barley", 10), lots("barley", -5)
	return p
}

func changed(change func(p *api.Period)) api.Period {
	p := usual()
	change(&p)
	return p
}

func deals(n int) []api.Deal { return slices.Repeat([]api.Deal{deal(day(0, 1, 5), "b", 1)}, n) }

func validPeriods() []api.Period {
	return []api.Period{
		usual(), period("a", day(0, 1, 1), day(0, 1, 1)), period(longest, day(2, 12, 30), day(2, 12, 30)),
		changed(func(p *api.Period) { p.Opening, p.Closing = manyLots("a", 64), nil }),
		changed(func(p *api.Period) { p.Opening, p.Closing = []api.Lot{}, lots("b", -1<<40, "c", 1<<40) }),
		changed(func(p *api.Period) { p.Deals = deals(64) }),
		changed(func(p *api.Period) { p.Deals = []api.Deal{} }),
		changed(func(p *api.Period) { p.Deals[0].On, p.Deals[1].On = p.From, p.To }),
		changed(func(p *api.Period) { p.Deals[0].On, p.Deals[1].On = p.To, p.To }),
		changed(func(p *api.Period) { p.Deals[0].With = longest }),
		changed(func(p *api.Period) { p.Deals[0].Lots = manyLots("a", 64) }),
		changed(func(p *api.Period) { p.Deals[0].Lots = lots("a", 1<<40) }),
	}
}

func badPeriods() []api.Period {
	l := []api.Period{
		{}, period("a", day(0, 1, 2), day(0, 1, 1)), period("a", day(1, 1, 1), day(0, 12, 30)),
		changed(func(p *api.Period) { p.Deals = deals(65) }),
		changed(func(p *api.Period) { p.Deals = make([]api.Deal, 64) }),
		changed(func(p *api.Period) { p.From = day(0, 1, 6) }),
		changed(func(p *api.Period) { p.To = day(0, 1, 30) }),
		changed(func(p *api.Period) { p.Deals[0].On = day(0, 2, 2) }),
		changed(func(p *api.Period) { p.Deals[1].On = day(0, 1, 4) }),
		changed(func(p *api.Period) { p.Deals[0].With = "a" }),
		changed(func(p *api.Period) { p.Deals[1].With = "a" }),
		changed(func(p *api.Period) { p.Holder = "b" }),
		changed(func(p *api.Period) { p.Deals[0].Lots = nil }),
		changed(func(p *api.Period) { p.Deals[1].Lots = []api.Lot{} }),
		changed(func(p *api.Period) { p.Deals[1].Lots = lots("barley", 1, "oil", -1) }),
	}
	for _, name := range notNames() {
		l = append(l, changed(func(p *api.Period) { p.Holder = name }), changed(func(p *api.Period) { p.Deals[0].With = name }), changed(func(p *api.Period) { p.Deals[1].With = name }))
	}
	for _, d := range noDates() {
		l = append(l, changed(func(p *api.Period) { p.From = d }), changed(func(p *api.Period) { p.To = d }), changed(func(p *api.Period) { p.Deals[0].On = d }), changed(func(p *api.Period) { p.Deals[1].On = d }))
	}
	for _, bad := range badLots() {
		l = append(l, changed(func(p *api.Period) { p.Opening = bad }), changed(func(p *api.Period) { p.Closing = bad }), changed(func(p *api.Period) { p.Deals[1].Lots = bad }))
	}
	return l
}

// P8.7: CheckPeriod, and ErrPeriod of all functions with periods, before their other errors.
func TestCheckPeriod(t *testing.T) {
	for _, p := range validPeriods() {
		expectError(t, fmt.Sprintf("CheckPeriod(%+v)", p), ledger.CheckPeriod(example(), p), api.OK)
	}
	good := period("z", day(2, 1, 1), day(2, 12, 30))
	for _, bad := range badPeriods() {
		for _, x := range []arguments{{p: bad, q: bad, on: day(-1, 1, 1), l: []api.Period{bad}, days: -1}, {p: bad, q: good, on: day(0, 1, 10), l: []api.Period{bad, good}, days: 1}, {p: bad, on: bad.To, l: []api.Period{good, usual(), bad}}} {
			x.c = example()
			expectCalls(t, x, api.ErrPeriod, "CheckPeriod", "Close", "Divide", "Join", "Carry", "Matching", "Audit")
			x.p, x.q = usual(), bad
			expectCalls(t, x, api.ErrPeriod, "Join")
		}
	}
}

// P8.8, P8.9, P8.10: ErrLimit of lists of periods, before ErrPeriod; the same numbers of valid ones are no error.
func TestTooManyPeriods(t *testing.T) {
	var many []api.Period
	for i := range 33 {
		many = append(many, period("a", day(0, 1+i/30, 1+i%30), day(0, 1+i/30, 1+i%30)))
	}
	for _, l := range [][]api.Period{make([]api.Period, 33), make([]api.Period, 1000), many} {
		expectCalls(t, arguments{c: example(), l: l, days: -1}, api.ErrLimit, "Carry", "Matching", "Audit")
	}
	carried, e := ledger.Carry(example(), many[:32])
	expect(t, "Carry of 32 periods", carried, e, many[:32], api.OK)
	expectCalls(t, arguments{c: example(), l: many[:32]}, api.OK, "Matching", "Audit")
}

// The examples of the chapter, and others: P8.7.
func TestClose(t *testing.T) {
	most := lots("barley", 1<<40)
	full := manyLots("a", 64)
	with := func(opening []api.Lot, l ...api.Deal) api.Period {
		return changed(func(p *api.Period) { p.Opening, p.Deals = opening, l })
	}
	in := func(l []api.Lot) api.Deal { return api.Deal{On: day(0, 1, 1), In: true, With: "b", Lots: l} }
	out := func(l []api.Lot) api.Deal { return api.Deal{On: day(0, 1, 1), With: "b", Lots: l} }
	one := lots("barley", 1)
	for i, x := range []struct {
		p    api.Period
		want []api.Lot
		e    api.Errno
	}{
		{usual(), lots("barley", -5), api.OK}, {with(nil), nil, api.OK}, {with(full), full, api.OK}, {with(lots("barley", 1), out(one)), nil, api.OK}, {with(nil, in(lots("oil", 2)), out(one)), lots("barley", -1, "oil", 2), api.OK},
		{with(most, in(one)), nil, api.ErrBig}, {with(most, out(one), in(one)), most, api.OK}, {with(most, in(one), out(one)), nil, api.ErrBig}, {with(lots("barley", -1<<40), out(one), in(one)), nil, api.ErrBig}, {with(lots("barley", -1<<40), in(one), out(one)), lots("barley", -1<<40), api.OK},
		{with(full, in(one)), nil, api.ErrLimit}, {with(full, out(one), in(one)), nil, api.ErrLimit}, {with(full, out(lots("a000", 1)), in(one)), append(slices.Clone(full[1:]), one...), api.OK},
		{with(full, in(one), in(lots("a000", 1<<40))), nil, api.ErrLimit}, {with(full, in(lots("a000", 1<<40)), in(one)), nil, api.ErrBig},
	} {
		l, e := ledger.Close(example(), x.p)
		expect(t, fmt.Sprintf("Close %d", i), l, e, x.want, x.e)
	}
}

// P8.7: the sum of the opening lots and of all deals.
func TestCloseByDefinition(t *testing.T) {
	random := newRandom()
	for range 1000 {
		p := randomPeriod(random, uneven())
		sums := map[string]int{}
		add := func(l []api.Lot, sign int) {
			for _, x := range l {
				sums[x.Good] += sign * x.N
			}
		}
		add(p.Opening, 1)
		for _, d := range p.Deals {
			if d.In {
				add(d.Lots, 1)
			} else {
				add(d.Lots, -1)
			}
		}
		var want []api.Lot
		for _, good := range goods() {
			if sums[good] != 0 {
				want = append(want, api.Lot{Good: good, N: sums[good]})
			}
		}
		l, e := ledger.Close(uneven(), p)
		expect(t, fmt.Sprintf("Close(%+v)", p), l, e, want, api.OK)
	}
}

func goods() []string { return []string{"barley", "oil", "wool"} }

// randomLots returns lots of from least to most of each good.
func randomLots(random *rand.Rand, least, most int) []api.Lot {
	var l []api.Lot
	for _, good := range goods() {
		if n := between(random, least, most); n != 0 {
			l = append(l, api.Lot{Good: good, N: n})
		}
	}
	return l
}

// randomPeriod returns a valid period of a calendar.
func randomPeriod(random *rand.Rand, c api.Calendar) api.Period {
	all := dates(c)
	from := random.IntN(len(all) - 100)
	to := from + pick(random, 0, 1, 2, 60, random.IntN(100))
	p := period(pick(random, "a", "b"), all[from], all[to])
	p.Opening, p.Closing = randomLots(random, -2, 3), randomLots(random, -2, 3)
	var on []int
	for range random.IntN(6) {
		on = append(on, between(random, from, to))
	}
	slices.Sort(on)
	for _, n := range on {
		p.Deals = append(p.Deals, api.Deal{On: all[n], In: random.IntN(2) == 0, With: pick(random, "c", "d"), Lots: append(lots("a", 1), randomLots(random, 0, 3)...)})
	}
	for i := range p.Deals {
		if len(p.Deals[i].Lots) > 1 {
			p.Deals[i].Lots = p.Deals[i].Lots[1:]
		} else {
			p.Deals[i].Lots = lots("oil", 1)
		}
	}
	return p
}

// P8.7
func TestDivideByExample(t *testing.T) {
	p := usual()
	middle := lots("barley", 15)
	first := api.Period{Holder: "a", From: p.From, Opening: p.Opening, Deals: p.Deals[:1], Closing: middle}
	second := api.Period{Holder: "a", To: p.To, Opening: middle, Deals: p.Deals[1:], Closing: p.Closing}
	for _, x := range []struct{ last, next api.Date }{{day(0, 1, 5), day(0, 1, 6)}, {day(0, 1, 30), day(0, 2, 1)}, {day(0, 1, 29), day(0, 1, 30)}} {
		first.To, second.From = x.last, x.next
		expectDivided(t, example(), p, x.last, first, second, api.OK)
	}
	first.Deals, first.To, first.Closing = nil, day(0, 1, 4), p.Opening
	second.Deals, second.From, second.Opening = p.Deals, day(0, 1, 5), p.Opening
	expectDivided(t, example(), p, day(0, 1, 4), first, second, api.OK)
	first.To, second.From = day(0, 1, 1), day(0, 1, 2)
	expectDivided(t, example(), p, day(0, 1, 1), first, second, api.OK)
	first.Deals, first.To, first.Closing = p.Deals, day(0, 2, 29), lots("barley", -5)
	second.Deals, second.From, second.Opening = nil, day(0, 2, 30), lots("barley", -5)
	expectDivided(t, example(), p, day(0, 2, 29), first, second, api.OK)
}

func expectDivided(t *testing.T, c api.Calendar, p api.Period, last api.Date, first, second api.Period, want api.Errno) {
	t.Helper()
	a, b, e := ledger.Divide(c, p, last)
	expect(t, fmt.Sprintf("the first part of Divide(%+v, %v)", p, last), a, e, first, want)
	expect(t, fmt.Sprintf("the second part of Divide(%+v, %v)", p, last), b, e, second, want)
}

// P8.7: the day after the last one may be in another month, in the second one of two, or in another year.
func TestDivideAcrossMonths(t *testing.T) {
	c := uneven()
	all := dates(c)
	p := period("a", all[0], all[len(all)-1])
	for i, last := range all[:len(all)-1] {
		if last.Day < 29 {
			continue
		}
		a, b, e := ledger.Divide(c, p, last)
		expect(t, fmt.Sprintf("the first part until %v", last), a, e, period("a", all[0], last), api.OK)
		expect(t, fmt.Sprintf("the second part after %v", last), b, e, period("a", all[i+1], all[len(all)-1]), api.OK)
	}
}

// P8.7: ErrDate, ErrRange and the errors of the first balance, in this order.
func TestDivideErrors(t *testing.T) {
	p := usual()
	p.Opening = lots("barley", 1<<40)
	none := api.Period{}
	for _, d := range noDates() {
		expectDivided(t, example(), p, d, none, none, api.ErrDate)
	}
	p.From = day(0, 1, 2)
	for _, d := range []api.Date{day(0, 1, 1), day(0, 2, 30), day(0, 3, 1), day(2, 12, 30)} {
		expectDivided(t, example(), p, d, none, none, api.ErrRange)
	}
	expectDivided(t, example(), p, day(0, 1, 5), none, none, api.ErrBig)
	if _, _, e := ledger.Divide(example(), p, day(0, 1, 4)); e != api.OK { // the balance of the second part is too big
		t.Errorf("Divide before a deal that is too big: error %d", e)
	}
	p.Opening = manyLots("a", 64)
	expectDivided(t, example(), p, day(0, 1, 5), none, none, api.ErrLimit)
	p.From, p.To, p.Deals = day(0, 1, 5), day(0, 1, 5), nil
	expectDivided(t, example(), p, day(0, 1, 5), none, none, api.ErrRange)
}

// P8.8
func TestJoin(t *testing.T) {
	a, b := usual(), period("a", day(0, 3, 1), day(0, 3, 2), deal(day(0, 3, 1), "b", 7))
	b.Opening, b.Closing = lots("barley", -5), lots("oil", 1)
	want := period("a", day(0, 1, 1), day(0, 3, 2), slices.Concat(a.Deals, b.Deals)...)
	want.Opening, want.Closing = lots("barley", 10), lots("oil", 1)
	p, e := ledger.Join(example(), a, b)
	expect(t, "Join", p, e, want, api.OK)
	a.Deals = deals(32)
	b.Deals = slices.Repeat(b.Deals, 32)
	want.Deals = slices.Concat(a.Deals, b.Deals)
	p, e = ledger.Join(example(), a, b)
	expect(t, "Join with 64 deals", p, e, want, api.OK)
	a.Closing, b.Opening = nil, []api.Lot{}
	p, e = ledger.Join(example(), a, b)
	expect(t, "Join with nothing carried forward", p, e, want, api.OK)
	a.Deals = deals(33)
	p, e = ledger.Join(example(), a, b)
	expect(t, "Join with 65 deals", p, e, api.Period{}, api.ErrLimit)
	p, e = ledger.Join(example(), b, a)
	expect(t, "Join of the second and the first", p, e, api.Period{}, api.ErrFollow)
}

// P8.8: ErrFollow, also where there are too many deals.
func TestJoinErrors(t *testing.T) {
	a, b := usual(), period("a", day(0, 3, 1), day(0, 3, 2))
	b.Opening = a.Closing
	for _, many := range [][]api.Deal{nil, deals(64)} {
		a.Deals = many
		for _, change := range []func(p *api.Period){
			func(p *api.Period) { p.Holder = "z" },
			func(p *api.Period) { p.From = day(0, 3, 2) },
			func(p *api.Period) { p.From = day(0, 2, 30) },
			func(p *api.Period) { p.From = day(0, 1, 1) },
			func(p *api.Period) { p.From, p.To = day(1, 3, 1), day(1, 3, 1) },
			func(p *api.Period) { p.Opening = nil },
			func(p *api.Period) { p.Opening = lots("barley", 5) },
			func(p *api.Period) { p.Opening = lots("oil", -5) },
			func(p *api.Period) { p.Opening = lots("barley", -5, "oil", 1) },
		} {
			c := b
			if many != nil {
				c.Deals = []api.Deal{deal(day(0, 3, 2), "b", 1)}
			}
			change(&c)
			if c.To.Year > 0 {
				c.Deals = nil
			}
			p, e := ledger.Join(example(), a, c)
			expect(t, fmt.Sprintf("Join(%+v, %+v)", a, c), p, e, api.Period{}, api.ErrFollow)
		}
	}
	// the example of the chapter
	p, e := ledger.Join(example(), period("a", day(0, 1, 1), day(0, 1, 30)), period("a", day(0, 2, 2), day(0, 2, 30)))
	expect(t, "Join with a gap", p, e, api.Period{}, api.ErrFollow)
}

// P8.8
func TestCarry(t *testing.T) {
	first, second, third := usual(), period("a", day(0, 3, 1), day(0, 3, 2), deal(day(0, 3, 1), "b", 7)), period("a", day(0, 3, 3), day(2, 1, 1), deal(day(1, 1, 1), "b", -2))
	first.Closing, second.Opening, third.Opening, third.Closing = lots("oil", 1), lots("oil", 2), lots("oil", 3), lots("oil", 4)
	want := []api.Period{first, second, third}
	want[0].Closing, want[1].Opening = lots("barley", -5), lots("barley", -5)
	want[1].Closing, want[2].Opening, want[2].Closing = lots("barley", 2), lots("barley", 2), nil
	l, e := ledger.Carry(example(), []api.Period{first, second, third})
	expect(t, "Carry", l, e, want, api.OK)
	l, e = ledger.Carry(example(), []api.Period{first})
	expect(t, "Carry of one period", l, e, want[:1], api.OK)
	l, e = ledger.Carry(example(), nil)
	expect(t, "Carry of nothing", l, e, nil, api.OK)
}

// P8.8: ErrFollow and the errors of the balances, period by period.
func TestCarryErrors(t *testing.T) {
	big := func(from api.Date) api.Period {
		p := period("a", from, from, deal(from, "b", 1<<40), deal(from, "b", 1))
		return p
	}
	ok := func(from api.Date, holder string) api.Period { return period(holder, from, from) }
	many := period("a", day(0, 1, 2), day(0, 1, 2), api.Deal{On: day(0, 1, 2), In: true, With: "b", Lots: manyLots("a", 64)}, deal(day(0, 1, 2), "b", 1))
	one := ok(day(0, 1, 1), "a")
	one.Opening = lots("oil", 1)
	for i, x := range []struct {
		l    []api.Period
		want api.Errno
	}{
		{[]api.Period{ok(day(0, 1, 1), "a"), ok(day(0, 1, 2), "b")}, api.ErrFollow}, {[]api.Period{ok(day(0, 1, 1), "a"), ok(day(0, 1, 1), "a")}, api.ErrFollow}, {[]api.Period{ok(day(0, 1, 1), "a"), ok(day(0, 1, 3), "a")}, api.ErrFollow}, {[]api.Period{ok(day(0, 1, 2), "a"), ok(day(0, 1, 1), "a")}, api.ErrFollow},
		{[]api.Period{ok(day(0, 1, 1), "a"), ok(day(0, 1, 2), "a"), ok(day(0, 1, 3), "b")}, api.ErrFollow}, {[]api.Period{ok(day(0, 12, 29), "a"), ok(day(1, 1, 1), "a")}, api.ErrFollow},
		{[]api.Period{big(day(0, 1, 1))}, api.ErrBig}, {[]api.Period{big(day(0, 1, 1)), ok(day(0, 1, 1), "a")}, api.ErrBig}, {[]api.Period{ok(day(0, 1, 1), "a"), big(day(0, 1, 3))}, api.ErrFollow}, {[]api.Period{ok(day(0, 1, 1), "a"), big(day(0, 1, 2)), ok(day(0, 1, 2), "a")}, api.ErrBig},
		{[]api.Period{ok(day(0, 1, 1), "a"), many}, api.ErrLimit}, {[]api.Period{ok(day(0, 1, 1), "a"), ok(day(0, 1, 2), "a"), big(day(0, 1, 3))}, api.ErrBig},
		{[]api.Period{{Holder: "a", From: day(0, 1, 1), To: day(0, 1, 1), Opening: lots("barley", 1<<40)}, period("a", day(0, 1, 2), day(0, 1, 2), deal(day(0, 1, 2), "b", 1))}, api.ErrBig},
	} {
		l, e := ledger.Carry(example(), x.l)
		expect(t, fmt.Sprintf("Carry %d", i), l, e, nil, x.want)
	}
	// an opening that is not carried forward does not count
	next := period("a", day(0, 1, 2), day(0, 1, 2), deal(day(0, 1, 2), "b", 1))
	next.Opening = lots("barley", 1<<40)
	l, e := ledger.Carry(example(), []api.Period{one, next})
	one.Closing, next.Opening, next.Closing = one.Opening, one.Opening, lots("barley", 1, "oil", 1)
	expect(t, "Carry over a great opening", l, e, []api.Period{one, next}, api.OK)
}

// P8.15: the parts of a divided period are joined to the period, and carry forward the balance of the whole.
func TestPartsAndWhole(t *testing.T) {
	random := newRandom()
	divided := 0
	for range 1000 {
		c := uneven()
		p := randomPeriod(random, c)
		whole, _ := ledger.Close(c, p)
		parts := []api.Period{p}
		for range random.IntN(4) {
			last := parts[len(parts)-1]
			all := dates(c)[number(c, last.From)-1 : number(c, last.To)]
			cut := pick(random, all...)
			a, b, e := ledger.Divide(c, last, cut)
			if cut == last.To {
				expectDivided(t, c, last, cut, api.Period{}, api.Period{}, api.ErrRange)
				continue
			}
			divided++
			expectError(t, "Divide", e, api.OK)
			closing, e := ledger.Close(c, a)
			expect(t, "the balance of the first part", closing, e, a.Closing, api.OK)
			joined, e := ledger.Join(c, a, b)
			expect(t, fmt.Sprintf("Join(%+v, %+v)", a, b), joined, e, last, api.OK)
			parts = append(parts[:len(parts)-1], a, b)
		}
		for i := range parts[1:] {
			parts[i+1].Opening = randomLots(random, -3, 3)
		}
		carried, e := ledger.Carry(c, parts)
		if e != api.OK || show(carried[len(parts)-1].Closing) != show(whole) {
			t.Fatalf("Carry(%+v): %+v, error %d; want %+v", parts, carried, e, whole)
		}
		joined := carried[0]
		for _, part := range carried[1:] {
			if joined, e = ledger.Join(c, joined, part); e != api.OK {
				t.Fatalf("Join(%+v, %+v): error %d", joined, part, e)
			}
		}
		p.Closing = whole
		expect(t, "the periods carried forward, joined", joined, e, p, api.OK)
	}
	if divided < 500 {
		t.Errorf("only %d periods were divided", divided)
	}
}

// P8.7: the balance is that of account.Add and account.Sub, deal by deal, also with their errors.
func TestCloseStepByStep(t *testing.T) {
	random := newRandom()
	wrong := 0
	for range 1000 {
		p := usual()
		p.Opening, p.Deals = append(manyLots("a", 62), lots("b", pick(random, 1<<40, -1<<40, 1))...), nil
		want, wantError := p.Opening, api.OK
		for range random.IntN(5) {
			d := api.Deal{On: day(0, 1, 1), In: random.IntN(2) == 0, With: "b", Lots: lots(pick(random, "a000", "b", "c", "d", "e"), pick(random, 1, 1, 2, 1<<40))}
			p.Deals = append(p.Deals, d)
			if wantError != api.OK {
				continue
			}
			if d.In {
				want, wantError = account.Add(want, d.Lots)
			} else {
				want, wantError = account.Sub(want, d.Lots)
			}
		}
		l, e := ledger.Close(example(), p)
		expect(t, fmt.Sprintf("Close(%+v)", p.Deals), l, e, want, wantError)
		if e != api.OK {
			wrong++
		}
	}
	if wrong < 200 || wrong > 800 {
		t.Errorf("%d of 1000 balances have errors", wrong)
	}
}
