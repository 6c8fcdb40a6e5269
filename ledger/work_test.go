package ledger_test

import (
	"fmt"
	"math/big"
	"slices"
	"testing"

	"bulla/api"
	"bulla/ledger"
)

func task(amount, rate api.Ratio) api.Task { return api.Task{Amount: amount, Rate: rate} }

func crew(workers int, share api.Ratio, from, to api.Date) api.Crew {
	return api.Crew{Workers: workers, Share: share, From: from, To: to}
}

// oneDay returns a crew that works on one day.
func oneDay(workers int, share api.Ratio) api.Crew {
	return crew(workers, share, day(0, 1, 1), day(0, 1, 1))
}

// added returns the sum of numbers from the left, as the chapter defines it.
func added(l ...*big.Rat) (api.Ratio, api.Errno) {
	s := whole(0)
	for _, x := range l {
		s = sum(s, x)
		if !has(x) || !has(s) {
			return api.Ratio{}, api.ErrBig
		}
	}
	return fitted(s)
}

func neededBy(l []api.Task) (api.Ratio, api.Errno) {
	var all []*big.Rat
	for _, x := range l {
		all = append(all, over(rat(x.Amount), rat(x.Rate)))
	}
	return added(all...)
}

func availableFrom(c api.Calendar, l []api.Crew) (api.Ratio, api.Errno) {
	var all []*big.Rat
	for _, x := range l {
		all = append(all, times(whole(x.Workers), rat(x.Share), whole(schematic(c, x.From, x.To)+1)))
	}
	return added(all...)
}

// The examples of the chapter: P8.3, P8.4.
func TestWorkByExample(t *testing.T) {
	c, tasks := example(), []api.Task{task(r(10, 1), r(1, 3)), task(r(5, 1), r(1, 1))}
	crews := []api.Crew{crew(2, r(1, 2), day(0, 1, 1), day(0, 1, 30))}
	n, e := ledger.Needed(tasks)
	expect(t, "Needed", n, e, r(35, 1), api.OK)
	n, e = ledger.Available(c, crews)
	expect(t, "Available", n, e, r(30, 1), api.OK)
	n, e = ledger.Balance(c, tasks, crews)
	expect(t, "Balance", n, e, r(-5, 1), api.OK)
	fewest, e := ledger.Fewest(c, tasks, r(1, 2), day(0, 1, 1), day(0, 1, 30))
	expect(t, "Fewest", fewest, e, 3, api.OK)
}

// P8.3
func TestNeeded(t *testing.T) {
	for _, amount := range amounts() {
		for _, rate := range positive(amounts()) {
			for _, l := range [][]api.Task{{task(amount, rate)}, {task(r(7, 3), r(1, 1)), task(amount, rate)}, {task(amount, rate), task(r(1<<40-1, 1), r(1, 1))}} {
				want, wantError := neededBy(l)
				n, e := ledger.Needed(l)
				expect(t, fmt.Sprintf("Needed(%v)", l), n, e, want, wantError)
			}
		}
	}
	for n, want := range map[int]api.Ratio{0: r(0, 1), 1: r(1, 3), 64: r(64, 3)} {
		q, e := ledger.Needed(slices.Repeat([]api.Task{task(r(2, 1), r(6, 1))}, n))
		expect(t, fmt.Sprintf("Needed of %d tasks", n), q, e, want, api.OK)
	}
}

// P8.3: ErrLimit, ErrWork and ErrBig of tasks, in this order, also where the calendar comes first.
func TestBadTasks(t *testing.T) {
	usual, tooBig := task(r(10, 1), r(1, 3)), task(r(1<<40, 1), r(1, 2))
	expectTasks := func(want api.Errno, l ...api.Task) {
		n, e := ledger.Needed(l)
		expect(t, fmt.Sprintf("Needed(%.100v)", l), n, e, api.Ratio{}, want)
		for _, crews := range [][]api.Crew{nil, make([]api.Crew, 1), make([]api.Crew, 65)} {
			expectCalls(t, arguments{c: example(), tasks: l, crews: crews}, want, "Balance", "Fewest")
		}
	}
	expectTasks(api.ErrLimit, make([]api.Task, 65)...)
	expectTasks(api.ErrLimit, slices.Repeat([]api.Task{usual}, 65)...)
	for _, q := range notAmounts() {
		for _, bad := range []api.Task{task(q, r(1, 1)), task(r(1, 1), q), task(q, q)} {
			expectTasks(api.ErrWork, bad)
			expectTasks(api.ErrWork, usual, tooBig, bad)
			expectTasks(api.ErrWork, bad, usual)
		}
	}
	expectTasks(api.ErrWork, task(r(1, 1), r(0, 1)))
	expectTasks(api.ErrWork, task(r(0, 1), r(0, 1)))
	expectTasks(api.ErrBig, tooBig)
	expectTasks(api.ErrBig, usual, tooBig)
	expectTasks(api.ErrBig, task(r(1, 1<<20), r(2, 1)))
	expectTasks(api.ErrBig, task(r(1<<40, 1), r(1, 1)), task(r(1, 1), r(1, 1)))
	expectTasks(api.ErrBig, task(r(1, 1<<20), r(1, 1)), task(r(1, 1<<20-1), r(1, 1)))
	// the sum of all three would have a ratio
	expectTasks(api.ErrBig, task(r(1, 1<<20), r(1, 1)), task(r(1, 3), r(1, 1)), task(r(2, 3), r(1, 1)))
	n, e := ledger.Needed([]api.Task{task(r(1, 3), r(1, 1)), task(r(2, 3), r(1, 1)), task(r(1, 1<<20), r(1, 1))})
	expect(t, "Needed in another order", n, e, r(1<<20+1, 1<<20), api.OK)
}

// crews are valid ones of the example's calendar, and of the uneven one.
func crews() []api.Crew {
	var l []api.Crew
	for _, workers := range []int{0, 1, 7, 4095, 4096} {
		for _, share := range parts() {
			l = append(l, oneDay(workers, share), crew(workers, share, day(0, 1, 1), day(2, 12, 29)), crew(workers, share, day(1, 1, 29), day(1, 2, 1)), crew(workers, share, day(2, 12, 29), day(2, 12, 29)))
		}
	}
	return l
}

// P8.3
func TestAvailable(t *testing.T) {
	for _, c := range []api.Calendar{example(), uneven()} {
		for _, x := range crews() {
			for _, l := range [][]api.Crew{{x}, {oneDay(1, r(1, 3)), x}, {x, oneDay(4096, r(1, 1))}} {
				want, wantError := availableFrom(c, l)
				n, e := ledger.Available(c, l)
				expect(t, fmt.Sprintf("Available(%v)", l), n, e, want, wantError)
			}
		}
		for n, want := range map[int]api.Ratio{0: r(0, 1), 1: r(2, 1), 64: r(128, 1)} {
			q, e := ledger.Available(c, slices.Repeat([]api.Crew{oneDay(4, r(1, 2))}, n))
			expect(t, fmt.Sprintf("Available of %d crews", n), q, e, want, api.OK)
		}
	}
	// a month of 29 days counts 30 to the next one, and a second month counts by itself
	for days, want := range map[[2]api.Date]int{{day(1, 1, 29), day(1, 2, 1)}: 3, {day(1, 1, 1), day(1, 12, 29)}: 359, {day(0, 1, 1), day(0, 2, 1)}: 61, {day(0, 2, 1), day(0, 2, 29)}: 29} {
		n, e := ledger.Available(uneven(), []api.Crew{crew(1, r(1, 1), days[0], days[1])})
		expect(t, fmt.Sprintf("Available of one from %v to %v", days[0], days[1]), n, e, r(want, 1), api.OK)
	}
}

// P8.3: ErrLimit, ErrWork and ErrBig of crews, in this order.
func TestBadCrews(t *testing.T) {
	usual, least := crew(2, r(1, 2), day(0, 1, 1), day(0, 1, 30)), oneDay(1, r(1, 1<<20))
	expectCrews := func(want api.Errno, l ...api.Crew) {
		for _, tasks := range [][]api.Task{nil, {task(r(1<<40, 1), r(1, 1))}} {
			expectCalls(t, arguments{c: example(), tasks: tasks, crews: l}, want, "Available", "Balance")
		}
	}
	expectCrews(api.ErrLimit, make([]api.Crew, 65)...)
	expectCrews(api.ErrLimit, slices.Repeat([]api.Crew{usual}, 65)...)
	expectWork := func(bad api.Crew) {
		expectCrews(api.ErrWork, bad)
		expectCrews(api.ErrWork, least, oneDay(1, r(1, 3)), bad)
		expectCrews(api.ErrWork, bad, usual)
	}
	for _, workers := range []int{-1, 4097, mostInt, leastInt} {
		expectWork(oneDay(workers, r(1, 2)))
	}
	for _, q := range notParts() {
		expectWork(oneDay(1, q))
	}
	for _, d := range noDates() {
		expectWork(crew(1, r(1, 2), d, day(2, 12, 30)))
		expectWork(crew(1, r(1, 2), day(0, 1, 1), d))
	}
	expectWork(crew(1, r(1, 2), day(0, 1, 2), day(0, 1, 1)))
	expectWork(crew(1, r(1, 2), day(1, 1, 1), day(0, 12, 30)))
	expectCrews(api.ErrBig, least, oneDay(1, r(1, 3)))
	expectCrews(api.ErrBig, least, oneDay(1, r(1, 3)), oneDay(2, r(1, 3)))
	n, e := ledger.Available(example(), []api.Crew{oneDay(1, r(1, 3)), oneDay(2, r(1, 3)), least})
	expect(t, "Available in another order", n, e, r(1<<20+1, 1<<20), api.OK)
}

// P8.3, P8.14: the balance is positive or zero exactly if the crews suffice.
func TestBalance(t *testing.T) {
	random := newRandom()
	for range 2000 {
		c := pick(random, example(), uneven())
		var tasks []api.Task
		var l []api.Crew
		for range random.IntN(4) {
			tasks = append(tasks, task(pick(random, amounts()...), pick(random, positive(amounts())...)))
		}
		for range random.IntN(4) {
			l = append(l, pick(random, crews()...))
		}
		needed, wantError := neededBy(tasks)
		available, e := availableFrom(c, l)
		if wantError == api.OK {
			wantError = e
		}
		want := api.Ratio{}
		if wantError == api.OK {
			want, wantError = fitted(less(rat(available), rat(needed)))
		}
		got, e := ledger.Balance(c, tasks, l)
		expect(t, fmt.Sprintf("Balance(%v, %v)", tasks, l), got, e, want, wantError)
		if e == api.OK && (got.N >= 0) != (rat(available).Cmp(rat(needed)) >= 0) {
			t.Errorf("Balance(%v, %v): %v", tasks, l, got)
		}
	}
	n, e := ledger.Balance(example(), []api.Task{task(r(1, 1<<20), r(1, 1))}, []api.Crew{oneDay(1, r(1, 3))})
	expect(t, "Balance without a ratio", n, e, api.Ratio{}, api.ErrBig)
	n, e = ledger.Balance(example(), nil, nil)
	expect(t, "Balance of nothing", n, e, r(0, 1), api.OK)
}

// P8.4, P8.14: so many workers suffice, and one less do not.
func TestFewest(t *testing.T) {
	c := uneven()
	for _, amount := range append(amounts(), r(4095, 1), r(4096, 1), r(4097, 1), r(8191, 2), r(8193, 2)) {
		for _, share := range positive(parts()) {
			for _, to := range []api.Date{day(0, 1, 1), day(0, 1, 2), day(1, 12, 29), day(2, 12, 29)} {
				tasks := []api.Task{task(amount, r(1, 1))}
				one := times(rat(share), whole(schematic(c, day(0, 1, 1), to)+1))
				workers := ceiling(over(rat(amount), one))
				want, wantError := 0, api.ErrRange
				if workers.Cmp(big.NewInt(4096)) <= 0 {
					want, wantError = int(workers.Int64()), api.OK
				}
				n, e := ledger.Fewest(c, tasks, share, day(0, 1, 1), to)
				expect(t, fmt.Sprintf("Fewest(%v, %v, to %v)", amount, share, to), n, e, want, wantError)
				if e == api.OK && n > 0 && (times(whole(n), one).Cmp(rat(amount)) < 0 || times(whole(n-1), one).Cmp(rat(amount)) >= 0) {
					t.Errorf("Fewest(%v, %v, to %v): %d", amount, share, to, n)
				}
				less, f := ledger.Balance(c, tasks, []api.Crew{crew(max(n-1, 0), share, day(0, 1, 1), to)})
				if e == api.OK && f == api.OK && n > 0 && less.N >= 0 {
					t.Errorf("Fewest(%v, %v, to %v): %d, but one less suffice", amount, share, to, n)
				}
			}
		}
	}
}

// P8.4: the number of workers is compared exactly, and is at most 4096.
func TestFewestAtTheLimits(t *testing.T) {
	c := largest()
	first, last := day(0, 1, 1), day(399, 12, 30)
	for i, x := range []struct {
		tasks    []api.Task
		share    api.Ratio
		from, to api.Date
		want     int
		e        api.Errno
	}{
		{nil, r(1, 2), first, first, 0, api.OK}, {[]api.Task{task(r(0, 1), r(1, 5))}, r(1, 1<<20), first, first, 0, api.OK},
		{[]api.Task{task(r(1, 1<<20), r(1, 1))}, r(1, 1), first, last, 1, api.OK}, {[]api.Task{task(r(1, 1<<20), r(1, 1))}, r(1, 1<<20), first, last, 1, api.OK},
		{[]api.Task{task(r(4096, 1), r(1, 1))}, r(1, 1), first, first, 4096, api.OK}, {[]api.Task{task(r(4096<<20+1, 1<<20), r(1, 1))}, r(1, 1), first, first, 0, api.ErrRange}, {[]api.Task{task(r(4095<<20+1, 1<<20), r(1, 1))}, r(1, 1), first, first, 4096, api.OK},
		{[]api.Task{task(r(4096*156000, 1), r(1, 1))}, r(1, 1), first, last, 4096, api.OK}, {[]api.Task{task(r(4096*156000+1, 1), r(1, 1))}, r(1, 1), first, last, 0, api.ErrRange},
		{[]api.Task{task(r(1<<40, 1), r(1, 1))}, r(1, 1<<20), first, first, 0, api.ErrRange}, {[]api.Task{task(r(1<<40, 1), r(1, 1))}, r(1<<20-1, 1<<20), first, last, 0, api.ErrRange},
		{[]api.Task{task(r(1<<20-1, 1<<20), r(1, 1))}, r(1<<20-1, 1<<20), first, first, 1, api.OK}, {[]api.Task{task(r(1<<20-1, 1<<20), r(1, 1))}, r(1<<20-2, 1<<20-1), first, first, 2, api.OK},
	} {
		n, e := ledger.Fewest(c, x.tasks, x.share, x.from, x.to)
		expect(t, fmt.Sprintf("Fewest %d", i), n, e, x.want, x.e)
	}
}

// P8.4: ErrWork.
func TestFewestErrors(t *testing.T) {
	tasks := []api.Task{task(r(1<<40, 1), r(1, 1))}
	expectWork := func(share api.Ratio, from, to api.Date) {
		expectCalls(t, arguments{c: example(), tasks: tasks, share: share, p: period("a", from, to)}, api.ErrWork, "Fewest")
	}
	for _, q := range append(notParts(), r(0, 1)) {
		expectWork(q, day(0, 1, 1), day(0, 1, 1))
	}
	for _, d := range noDates() {
		expectWork(r(1, 2), d, day(0, 1, 1))
		expectWork(r(1, 2), day(0, 1, 1), d)
	}
	expectWork(r(1, 2), day(0, 1, 2), day(0, 1, 1))
	expectWork(r(1, 2), day(1, 1, 1), day(0, 12, 30))
}
