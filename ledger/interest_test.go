package ledger_test

import (
	"fmt"
	"testing"

	"bulla/api"
	"bulla/ledger"
)

func dayCounts() []int {
	return []int{0, 1, 2, 7, 29, 30, 180, 359, 360, 361, 1800, 156000, 1<<20 - 1, 1 << 20, 1<<40 - 1, 1 << 40}
}

// P8.1
func TestInterestIsExact(t *testing.T) {
	for _, principal := range amounts() {
		for _, rate := range amounts() {
			for _, days := range dayCounts() {
				want, wantError := fitted(over(times(rat(principal), rat(rate), whole(days)), whole(360)))
				got, e := ledger.Interest(principal, rate, days)
				expect(t, fmt.Sprintf("Interest(%v, %v, %d)", principal, rate, days), got, e, want, wantError)
			}
		}
	}
}

// P8.1: one calculation, so that only its result must have a ratio.
func TestInterestHasNoLimitOnTheWay(t *testing.T) {
	for _, x := range []struct {
		principal, rate api.Ratio
		days            int
		want            api.Ratio
		e               api.Errno
	}{
		{r(1<<40, 1), r(1, 1<<20), 1 << 20, r(1<<37, 45), api.OK}, {r(1, 1<<20), r(1, 1<<20), 360 << 20, r(1, 1<<20), api.OK}, {r(1<<40, 1), r(360, 1), 1, r(1<<40, 1), api.OK},
		{r(1<<40, 1), r(360, 1), 2, r(0, 0), api.ErrBig}, {r(1, 1<<20), r(1, 1), 1, r(0, 0), api.ErrBig}, {r(1<<40, 1), r(1<<40, 1), 0, r(0, 1), api.OK}, {r(1, 1<<18), r(1, 1), 90, r(1, 1<<20), api.OK},
	} {
		got, e := ledger.Interest(x.principal, x.rate, x.days)
		expect(t, fmt.Sprintf("Interest(%v, %v, %d)", x.principal, x.rate, x.days), got, e, x.want, x.e)
	}
}

// P8.1: ErrArg, ErrRange and ErrBig, in this order.
func TestInterestErrors(t *testing.T) {
	for _, bad := range notAmounts() {
		for _, days := range []int{0, 180, -1, 1<<40 + 1} {
			for _, good := range []api.Ratio{r(0, 1), r(60, 1), r(1<<40, 1)} {
				got, e := ledger.Interest(bad, good, days)
				expect(t, fmt.Sprintf("Interest(%v, %v, %d)", bad, good, days), got, e, api.Ratio{}, api.ErrArg)
				got, e = ledger.Interest(good, bad, days)
				expect(t, fmt.Sprintf("Interest(%v, %v, %d)", good, bad, days), got, e, api.Ratio{}, api.ErrArg)
			}
		}
	}
	for _, days := range []int{-1, 1<<40 + 1, mostInt, leastInt} {
		for _, q := range []api.Ratio{r(0, 1), r(60, 1), r(1<<40, 1)} {
			got, e := ledger.Interest(q, q, days)
			expect(t, fmt.Sprintf("Interest(%v, %v, %d)", q, q, days), got, e, api.Ratio{}, api.ErrRange)
		}
	}
}

// The examples of the chapter: P8.1.
func TestInterestByExample(t *testing.T) {
	got, e := ledger.Interest(r(60, 1), r(1, 5), 180)
	expect(t, "Interest(60/1, 1/5, 180)", got, e, r(6, 1), api.OK)
	for rate, want := range map[api.Ratio]int{r(1, 5): 1800, r(1, 3): 1080, r(7, 1): 52, r(360, 1): 1, r(361, 1): 1, r(359, 1): 2, r(1<<40, 1): 1, r(1, 1<<20): 360 << 20, r(1<<40, 1<<20-1): 1, r(360, 7): 7, r(719, 14): 8} {
		n, e := ledger.Doubles(rate)
		expect(t, fmt.Sprintf("Doubles(%v)", rate), n, e, want, api.OK)
	}
}

// P8.1: the smallest number of days after which the interest is at least the principal.
func TestDoubles(t *testing.T) {
	for _, rate := range positive(amounts()) {
		n, e := ledger.Doubles(rate)
		expectError(t, fmt.Sprintf("Doubles(%v)", rate), e, api.OK)
		after := func(days int) int { return times(rat(rate), whole(days)).Cmp(whole(360)) }
		if after(n) < 0 || n < 1 || after(n-1) >= 0 {
			t.Errorf("Doubles(%v): %d", rate, n)
		}
	}
	for _, bad := range append(notAmounts(), r(0, 1)) {
		n, e := ledger.Doubles(bad)
		expect(t, fmt.Sprintf("Doubles(%v)", bad), n, e, 0, api.ErrArg)
	}
}

// P8.12: Interest is linear in the principal, the rate and the days, and so grows with each of them.
func TestInterestIsLinear(t *testing.T) {
	random := newRandom()
	for range 20000 {
		x, y, rate := pick(random, amounts()...), pick(random, amounts()...), pick(random, amounts()...)
		m, n := pick(random, dayCounts()...), pick(random, dayCounts()...)
		expectLinear(t, func(k int) (api.Ratio, api.Errno) {
			both, _ := fitted(sum(rat(x), rat(y)))
			return ledger.Interest([]api.Ratio{x, y, both}[k], rate, m)
		})
		expectLinear(t, func(k int) (api.Ratio, api.Errno) {
			both, _ := fitted(sum(rat(x), rat(y)))
			return ledger.Interest(rate, []api.Ratio{x, y, both}[k], m)
		})
		expectLinear(t, func(k int) (api.Ratio, api.Errno) { return ledger.Interest(x, rate, []int{m, n, m + n}[k]) })
	}
}

// expectLinear expects the value of 2, which stands for the sum of what 0 and 1 stand for, to be the sum of their values, wherever there is no error.
func expectLinear(t *testing.T, f func(k int) (api.Ratio, api.Errno)) {
	t.Helper()
	x, ex := f(0)
	y, ey := f(1)
	both, e := f(2)
	if ex == api.OK && ey == api.OK && e == api.OK && sum(rat(x), rat(y)).Cmp(rat(both)) != 0 {
		t.Errorf("the interest of the sum is %v; want %v and %v", both, x, y)
	}
}
