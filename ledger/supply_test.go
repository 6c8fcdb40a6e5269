package ledger_test

import (
	"fmt"
	"math/big"
	"slices"
	"testing"

	"bulla/account"
	"bulla/api"
	"bulla/ledger"
)

func class(count int, ration []api.Lot) api.Class { return api.Class{Count: count, Ration: ration} }

// The examples of the chapter: P8.5.
func TestRationsByExample(t *testing.T) {
	l, e := ledger.Rations([]api.Class{class(5, lots("barley", 60)), class(3, lots("barley", 30, "oil", 1))}, 2)
	expect(t, "Rations", l, e, lots("barley", 780, "oil", 6), api.OK)
}

// P8.5
func TestRations(t *testing.T) {
	most := lots("barley", 1<<40)
	for i, x := range []struct {
		l      []api.Class
		months int
		want   []api.Lot
		e      api.Errno
	}{
		{nil, 0, nil, api.OK}, {[]api.Class{}, 1200, nil, api.OK}, {[]api.Class{class(1<<40, nil)}, 1200, nil, api.OK}, {[]api.Class{class(0, most)}, 1200, nil, api.OK}, {[]api.Class{class(1<<40, most)}, 0, nil, api.OK},
		{[]api.Class{class(1, most)}, 1, most, api.OK}, {[]api.Class{class(1<<40, lots("barley", 1))}, 1, most, api.OK}, {[]api.Class{class(1<<40, lots("barley", 1))}, 2, nil, api.ErrBig}, {[]api.Class{class(1<<40, most)}, 1200, nil, api.ErrBig},
		{[]api.Class{class(1, most), class(1, lots("barley", 1))}, 1, nil, api.ErrBig}, {[]api.Class{class(1, most), class(0, lots("barley", 1))}, 1, most, api.OK}, {[]api.Class{class(1, most), class(1, lots("oil", 1))}, 1, lots("barley", 1<<40, "oil", 1), api.OK},
		{slices.Repeat([]api.Class{class(2, lots("oil", 3))}, 64), 1200, lots("oil", 64*6*1200), api.OK}, {[]api.Class{class(1, manyLots("a", 64)), class(1, manyLots("a", 64))}, 3, mapped(manyLots("a", 64), 6), api.OK},
		{[]api.Class{class(1, manyLots("a", 64)), class(1, lots("b", 1))}, 1, nil, api.ErrLimit}, {[]api.Class{class(1, manyLots("a", 64)), class(0, lots("b", 1))}, 1, manyLots("a", 64), api.OK},
		// the first error of the calculations, in the order of the classes
		{[]api.Class{class(1, manyLots("a", 64)), class(1, lots("b", 1)), class(2, lots("a000", 1<<40))}, 1, nil, api.ErrLimit}, {[]api.Class{class(2, lots("a000", 1<<40)), class(1, manyLots("a", 64)), class(1, lots("b", 1))}, 1, nil, api.ErrBig},
	} {
		l, e := ledger.Rations(x.l, x.months)
		expect(t, fmt.Sprintf("Rations %d", i), l, e, x.want, x.e)
	}
}

func mapped(l []api.Lot, k int) []api.Lot {
	l, _ = account.Scale(l, k)
	return l
}

// P8.5: the sum of the rations of all people in all months.
func TestRationsByDefinition(t *testing.T) {
	random := newRandom()
	for range 300 {
		var l []api.Class
		months := random.IntN(4)
		sums := map[string]int{}
		for range random.IntN(5) {
			x := class(random.IntN(4), nil)
			for _, good := range []string{"barley", "oil", "wool"} {
				if n := random.IntN(5); n > 0 {
					x.Ration = append(x.Ration, api.Lot{Good: good, N: n})
					sums[good] += n * x.Count * months
				}
			}
			l = append(l, x)
		}
		var want []api.Lot
		for _, good := range []string{"barley", "oil", "wool"} {
			if sums[good] > 0 {
				want = append(want, api.Lot{Good: good, N: sums[good]})
			}
		}
		got, e := ledger.Rations(l, months)
		expect(t, fmt.Sprintf("Rations(%v, %d)", l, months), got, e, want, api.OK)
	}
}

// P8.5: the errors, class by class, and then that of the months.
func TestRationsErrors(t *testing.T) {
	expectRations := func(want api.Errno, months int, l ...api.Class) {
		t.Helper()
		got, e := ledger.Rations(l, months)
		expect(t, fmt.Sprintf("Rations(%.200v, %d)", l, months), got, e, nil, want)
	}
	usual, tooBig := class(5, lots("barley", 60)), class(2, lots("barley", 1<<40))
	negative := class(1, lots("barley", 1, "oil", -1))
	for _, months := range []int{1, -1} {
		expectRations(api.ErrLimit, months, make([]api.Class, 65)...)
		expectRations(api.ErrLimit, months, slices.Repeat([]api.Class{negative}, 65)...)
		for _, count := range []int{-1, 1<<40 + 1, mostInt, leastInt} {
			expectRations(api.ErrRange, months, usual, tooBig, class(count, lots("barley", 0)))
		}
		for _, bad := range badLots() {
			want := account.CheckLots(bad)
			expectRations(want, months, usual, class(0, bad), negative)
			expectRations(api.ErrRange, months, usual, negative, class(0, bad))
		}
		expectRations(api.ErrLots, months, class(1, lots("b", -1, "a", 1)))
		expectRations(api.ErrLimit, months, class(1, append(manyLots("a", 64), lots("b", -1)...)))
		expectRations(api.ErrRange, months, class(0, lots("barley", -1)))
	}
	for _, months := range []int{-1, 1201, mostInt, leastInt} {
		expectRations(api.ErrRange, months)
		expectRations(api.ErrRange, months, usual, tooBig)
	}
}

func herd(ewes, rams, lambs int) api.Herd { return api.Herd{Ewes: ewes, Rams: rams, Lambs: lambs} }

// grown returns a herd after a year, and whether it is not too great.
func grown(h api.Herd, births, deaths api.Ratio) (api.Herd, bool) {
	of := func(rate api.Ratio, n int) int {
		x := times(rat(rate), whole(n))
		return int(new(big.Int).Quo(x.Num(), x.Denom()).Int64())
	}
	ewes, rams, lambs := h.Ewes-of(deaths, h.Ewes), h.Rams-of(deaths, h.Rams), h.Lambs-of(deaths, h.Lambs)
	young := (lambs + 1) / 2
	h = herd(ewes+young, rams+lambs-young, of(births, ewes))
	return h, max(h.Ewes, h.Rams, h.Lambs) <= 1<<20
}

// The examples of the chapter, and others: P8.6.
func TestGrowByExample(t *testing.T) {
	const most = 1 << 20
	for i, x := range []struct {
		h              api.Herd
		births, deaths api.Ratio
		years          int
		want           api.Herd
		e              api.Errno
	}{
		{herd(10, 2, 5), r(4, 5), r(1, 10), 1, herd(12, 4, 7), api.OK}, {herd(1, 1, 0), r(1, 1), r(0, 1), 3, herd(3, 1, 2), api.OK}, {herd(10, 2, 5), r(4, 5), r(1, 10), 0, herd(10, 2, 5), api.OK},
		{herd(most, most, most), r(1, 1), r(0, 1), 0, herd(most, most, most), api.OK}, {herd(most, 0, 1), r(0, 1), r(0, 1), 1, herd(0, 0, 0), api.ErrBig}, {herd(0, most, 1), r(0, 1), r(0, 1), 1, herd(1, most, 0), api.OK},
		{herd(0, most, 2), r(0, 1), r(0, 1), 1, herd(0, 0, 0), api.ErrBig}, {herd(most, most, most), r(1, 1), r(1, 1), 1, herd(0, 0, 0), api.OK}, {herd(most, most, 0), r(1, 1), r(0, 1), 1, herd(most, most, most), api.OK},
		{herd(most, most, 0), r(1, 1), r(0, 1), 2, herd(0, 0, 0), api.ErrBig}, {herd(0, 0, most), r(1, 1), r(0, 1), 1, herd(most/2, most/2, 0), api.OK}, {herd(0, 0, 3), r(1, 1), r(0, 1), 1, herd(2, 1, 0), api.OK},
		{herd(most, 0, 0), r(1<<20-1, 1<<20), r(1, 1<<20), 1, herd(most-1, 0, most-2), api.OK}, {herd(0, 0, 0), r(1, 1), r(0, 1), 40, herd(0, 0, 0), api.OK}, {herd(1, 0, 0), r(1, 1), r(0, 1), 40, herd(345240, 345217, 252733), api.OK}, {herd(10, 0, 0), r(1, 1), r(0, 1), 40, herd(0, 0, 0), api.ErrBig},
	} {
		h, e := ledger.Grow(x.h, x.births, x.deaths, x.years)
		expect(t, fmt.Sprintf("Grow %d", i), h, e, x.want, x.e)
	}
}

// P8.6
func TestGrow(t *testing.T) {
	random := newRandom()
	big := 0
	for range 3000 {
		most := pick(random, 3, 50, 1<<20)
		h := herd(random.IntN(most+1), random.IntN(most+1), random.IntN(most+1))
		births, deaths := pick(random, parts()...), pick(random, append(parts(), r(1, 10), r(1, 7))...)
		want, fits := h, true
		for years := range 41 {
			got, e := ledger.Grow(h, births, deaths, years)
			call := fmt.Sprintf("Grow(%v, %v, %v, %d)", h, births, deaths, years)
			if fits {
				expect(t, call, got, e, want, api.OK)
			} else {
				expect(t, call, got, e, api.Herd{}, api.ErrBig)
				big++
				break
			}
			if want, fits = grown(want, births, deaths); random.IntN(3) == 0 {
				break
			}
		}
	}
	if big < 20 {
		t.Errorf("only %d herds became too great", big)
	}
}

// P8.6: ErrHerd, ErrArg, ErrRange and ErrBig, in this order; a herd that became too great does not become smaller again.
func TestGrowErrors(t *testing.T) {
	expectGrow := func(want api.Errno, h api.Herd, births, deaths api.Ratio, years int) {
		t.Helper()
		got, e := ledger.Grow(h, births, deaths, years)
		expect(t, fmt.Sprintf("Grow(%v, %v, %v, %d)", h, births, deaths, years), got, e, api.Herd{}, want)
	}
	great := herd(1<<20, 1<<20, 1<<20)
	for _, n := range []int{-1, 1<<20 + 1, mostInt, leastInt} {
		for _, h := range []api.Herd{herd(n, 0, 0), herd(0, n, 0), herd(0, 0, n)} {
			expectGrow(api.ErrHerd, h, r(1, 2), r(1, 2), 1)
			expectGrow(api.ErrHerd, h, r(2, 1), r(2, 1), -1)
		}
	}
	for _, q := range notParts() {
		for _, years := range []int{0, 1, -1, 41} {
			expectGrow(api.ErrArg, great, q, r(0, 1), years)
			expectGrow(api.ErrArg, great, r(0, 1), q, years)
		}
	}
	for _, years := range []int{-1, 41, mostInt, leastInt} {
		expectGrow(api.ErrRange, great, r(1, 1), r(0, 1), years)
	}
	for years := 1; years <= 40; years++ {
		expectGrow(api.ErrBig, herd(1<<20, 0, 1<<20), r(0, 1), r(1, 4), years)
	}
}
