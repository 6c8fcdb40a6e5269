package ledger_test

import (
	"fmt"
	"testing"

	"bulla/api"
	"bulla/ledger"
)

// roomy returns a copy of a list with memory behind it.
func roomy[T any](l []T) []T { return append(make([]T, 0, len(l)+20), l...) }

// room writes out all memory of a list.
func room[T any](l []T) string { return fmt.Sprintf("%+v", l[:cap(l)]) }

// spoil overwrites all memory of a list.
func spoil[T any](l []T, x T) {
	for i := range l[:cap(l)] {
		l[:cap(l)][i] = x
	}
}

func roomyPeriod(p api.Period) api.Period {
	p.Opening, p.Closing, p.Deals = roomy(p.Opening), roomy(p.Closing), roomy(p.Deals)
	for i := range p.Deals {
		p.Deals[i].Lots = roomy(p.Deals[i].Lots)
	}
	return p
}

func roomOf(l ...api.Period) string {
	text := room(l)
	for _, p := range l {
		text += room(p.Opening) + room(p.Closing) + room(p.Deals)
		for _, d := range p.Deals {
			text += room(d.Lots)
		}
	}
	return text
}

// spoilPeriod overwrites all memory of a period, list by list, and calls check after each.
func spoilPeriod(p api.Period, check func()) {
	bad := api.Lot{Good: "spoilt", N: -7}
	for _, d := range p.Deals {
		spoil(d.Lots, bad)
		check()
	}
	spoil(p.Opening, bad)
	check()
	spoil(p.Closing, bad)
	check()
	spoil(p.Deals, api.Deal{With: "spoilt"})
	check()
}

// following returns a period and the one that follows it, both with memory behind their lists.
func following() (a, b api.Period) {
	a, b = usual(), period("a", day(0, 3, 1), day(0, 3, 2), deal(day(0, 3, 1), "b", 7))
	b.Opening, b.Closing = lots("barley", -5), lots("barley", 2)
	return roomyPeriod(a), roomyPeriod(b)
}

// P8.11, R4: arguments are only read, also behind their ends.
func TestArgumentsStay(t *testing.T) {
	x := right()
	x.c.Kings, x.c.Years = roomy(x.c.Kings), roomy(x.c.Years)
	x.paid, x.tasks, x.crews = roomy(x.paid), roomy(x.tasks), roomy(x.crews)
	x.p, x.q = following()
	x.l = roomy([]api.Period{x.p, x.q})
	classes := roomy([]api.Class{class(2, roomy(lots("oil", 1))), class(3, roomy(lots("barley", 1, "oil", 2)))})
	text := func() string {
		return room(x.c.Kings) + room(x.c.Years) + room(x.paid) + room(x.tasks) + room(x.crews) + roomOf(x.p, x.q) + roomOf(x.l...) + room(x.l) + room(classes) + room(classes[0].Ration) + room(classes[1].Ration)
	}
	before := text()
	all := calls(x)
	all["Rations"] = func() (string, api.Errno) { return shown(ledger.Rations(classes, 2)) }
	all["Needed"] = func() (string, api.Errno) { return shown(ledger.Needed(x.tasks)) }
	for name, call := range all {
		if _, e := call(); e != api.OK {
			t.Errorf("%s: error %d", name, e)
		}
		if text() != before {
			t.Fatalf("%s changes an argument", name)
		}
	}
}

// expectApart expects that the lists of periods share no memory: not with each other, nor with arguments. Spoiling one of them changes no other one.
func expectApart(t *testing.T, call string, results []api.Period, arguments ...api.Period) {
	t.Helper()
	var all []api.Period
	all = append(all, results...)
	all = append(all, arguments...)
	for i, p := range results {
		var others []api.Period
		others = append(others, all[:i]...)
		others = append(others, all[i+1:]...)
		before := roomOf(others...)
		spoilPeriod(p, func() {
			t.Helper()
			if roomOf(others...) != before {
				t.Fatalf("%s: a list of the result %d shares memory with another one", call, i)
			}
		})
	}
}

// expectOwn expects that no two lists of a period share memory.
func expectOwn(t *testing.T, call string, p api.Period) {
	t.Helper()
	opening, closing := room(p.Opening), room(p.Closing)
	var dealt []string
	for _, d := range p.Deals {
		dealt = append(dealt, room(d.Lots))
	}
	for i, d := range p.Deals {
		spoil(d.Lots, api.Lot{Good: "spoilt"})
		for j, other := range p.Deals[i+1:] {
			if room(other.Lots) != dealt[i+1+j] {
				t.Errorf("%s: two deals share their lots", call)
			}
		}
	}
	if room(p.Opening) != opening || room(p.Closing) != closing {
		t.Errorf("%s: deals share their lots with what is carried forward", call)
	}
	spoil(p.Opening, api.Lot{Good: "spoilt"})
	if room(p.Closing) != closing {
		t.Errorf("%s: the opening and the closing lots share memory", call)
	}
}

// P8.11, R4: results share no memory with an argument, nor with each other.
func TestResultsAreNew(t *testing.T) {
	results := func(a, b api.Period) map[string][]api.Period {
		first, second, e := ledger.Divide(example(), a, day(0, 1, 30))
		expectError(t, "Divide", e, api.OK)
		early, late, e := ledger.Divide(example(), a, day(0, 1, 2))
		expectError(t, "Divide", e, api.OK)
		joined, e := ledger.Join(example(), a, b)
		expectError(t, "Join", e, api.OK)
		carried, e := ledger.Carry(example(), []api.Period{a, b})
		expectError(t, "Carry", e, api.OK)
		still, e := ledger.Carry(example(), []api.Period{stated("a", day(0, 1, 1), day(0, 1, 1), a.Opening, nil), stated("a", day(0, 1, 2), day(0, 1, 2), nil, nil)})
		expectError(t, "Carry", e, api.OK)
		return map[string][]api.Period{"Divide": {first, second}, "Divide before the deals": {early, late}, "Join": {joined}, "Carry": carried, "Carry without deals": still}
	}
	a, b := following()
	for call, l := range results(a, b) {
		want := show(l)
		expectApart(t, call, l, a, b)
		if got := show(results(a, b)[call]); got != want {
			t.Errorf("%s once more: %s; want %s", call, got, want)
		}
	}
	for call, l := range results(a, b) {
		for _, p := range l {
			expectOwn(t, call, p)
		}
	}
}

// P8.11, R4: so do lots, pairs and issues.
func TestResultListsAreNew(t *testing.T) {
	bad := api.Lot{Good: "spoilt", N: -7}
	classes := []api.Class{class(1, roomy(lots("barley", 2)))}
	p, still := roomyPeriod(usual()), roomyPeriod(stated("a", day(0, 1, 1), day(0, 1, 1), lots("barley", 1), nil))
	for range 2 {
		l, e := ledger.Rations(classes, 1)
		expect(t, "Rations", l, e, lots("barley", 2), api.OK)
		spoil(l, bad)
		l, e = ledger.Close(example(), p)
		expect(t, "Close", l, e, lots("barley", -5), api.OK)
		spoil(l, bad)
		l, e = ledger.Close(example(), still)
		expect(t, "Close without deals", l, e, lots("barley", 1), api.OK)
		spoil(l, bad)
		m, e := ledger.Matching(example(), []api.Period{given(1), taken(1)}, 0)
		expect(t, "Matching", m, e, []api.Match{match(0, 0, 1, 0)}, api.OK)
		spoil(m, match(7, 7, 7, 7))
		x, e := ledger.Audit(example(), []api.Period{given(1)}, 0)
		expect(t, "Audit", x, e, []api.Issue{issue(api.IssueSum, 0, 0)}, api.OK)
		spoil(x, issue(7, 7, 7))
	}
}

// P1, R3: nil and empty lists are the same.
func TestEmptyLists(t *testing.T) {
	p := usual()
	p.Opening, p.Closing, p.Deals = nil, nil, nil
	q := p
	q.Opening, q.Closing, q.Deals = []api.Lot{}, []api.Lot{}, []api.Deal{}
	x, y := right(), right()
	x.paid, x.tasks, x.crews, x.p, x.l, x.q.Opening = nil, nil, nil, p, nil, nil
	y.paid, y.tasks, y.crews, y.p, y.l, y.q.Opening = []api.Payment{}, []api.Task{}, []api.Crew{}, q, []api.Period{}, []api.Lot{}
	for name, call := range calls(x) {
		want, wantError := call()
		got, e := calls(y)[name]()
		expect(t, name, got, e, want, wantError)
		expectError(t, name, e, api.OK)
	}
}
