package place_test

import (
	"fmt"
	"math/big"
	"slices"
	"testing"

	"bulla/api"
	"bulla/metro"
	"bulla/place"
)

// invalidPlaces calls f with place-value numbers that are not valid, and their error.
func invalidPlaces(f func(x api.Place, e api.Errno)) {
	forInvalid(func(a []int, e api.Errno) {
		for _, shift := range []int{0, 1, -64, 65, -65} {
			f(p(shift, a...), e)
		}
	})
	for _, shift := range []int{65, -65, leastInt, mostInt} {
		f(p(shift, 1), api.ErrRange)
		f(p(shift, repeated(16, 59)...), api.ErrRange)
		f(p(shift), api.ErrRange)
	}
	for _, shift := range []int{1, -1, 64, -64} {
		f(p(shift), api.ErrForm)
		f(api.Place{D: []int{}, Shift: shift}, api.ErrForm)
	}
}

// P3.11
func TestCheckPlace(t *testing.T) {
	for _, x := range []api.Place{{}, {D: []int{}}, p(0, 1), p(64, 1), p(-64, 1), p(-64, repeated(16, 59)...), p(64, repeated(16, 59)...), p(3, 1, 0, 1)} {
		expect(t, fmt.Sprint("CheckPlace", x), 0, place.CheckPlace(x), 0, api.OK)
	}
	invalidPlaces(func(x api.Place, want api.Errno) {
		expect(t, fmt.Sprint("CheckPlace", x), 0, place.CheckPlace(x), 0, want)
	})
}

func expectSum(t *testing.T, l []api.Place, want api.Place, wantError api.Errno) {
	t.Helper()
	s, e := place.Sum(l)
	expectPlace(t, fmt.Sprint("Sum", l), s, e, want, wantError)
}

func times(n int, x api.Place) []api.Place { return slices.Repeat([]api.Place{x}, n) }

// P3.11
func TestSum(t *testing.T) {
	low, high := p(-64, 1), p(64, repeated(16, 59)...)
	for _, x := range []struct {
		l    []api.Place
		want api.Place
		e    api.Errno
	}{
		{nil, api.Place{}, api.OK}, {make([]api.Place, 64), api.Place{}, api.OK}, {[]api.Place{p(0, 5)}, p(0, 5), api.OK}, {[]api.Place{p(-3, 5), {}, {D: []int{}}}, p(-3, 5), api.OK},
		{[]api.Place{p(-1, 30), p(-1, 30), p(0, 59)}, p(1, 1), api.OK}, {[]api.Place{p(1, 7), p(0, 2, 20), p(0, 35)}, p(0, 9, 55), api.OK},
		{[]api.Place{p(8, 1), p(-7, 1)}, p(-7, append(append(d(1), repeated(14, 0)...), 1)...), api.OK}, {[]api.Place{p(8, 1), p(-8, 1)}, api.Place{}, api.ErrLimit}, {[]api.Place{p(64, 1), low}, api.Place{}, api.ErrLimit}, {[]api.Place{high, low}, api.Place{}, api.ErrLimit},
		{[]api.Place{low}, low, api.OK}, {[]api.Place{high}, high, api.OK}, {[]api.Place{low, low}, p(-64, 2), api.OK}, {times(60, low), p(-63, 1), api.OK}, {times(60, p(63, 1)), p(64, 1), api.OK}, {times(60, p(64, 1)), api.Place{}, api.ErrLimit}, {[]api.Place{p(64, 59), p(64, 1)}, api.Place{}, api.ErrLimit}, {times(61, p(64, 1)), p(64, 1, 1), api.OK}, {times(64, high), api.Place{}, api.ErrLimit}, {append(times(60, high), p(64, 59), p(64, 1)), api.Place{}, api.ErrLimit},
		{[]api.Place{p(0, repeated(16, 59)...), p(0, 1)}, p(16, 1), api.OK}, {[]api.Place{p(63, repeated(16, 59)...), p(63, 1)}, api.Place{}, api.ErrLimit}, {[]api.Place{p(48, repeated(16, 59)...), p(48, 1)}, p(64, 1), api.OK},
		{make([]api.Place, 65), api.Place{}, api.ErrLimit}, {times(65, p(0, 0)), api.Place{}, api.ErrLimit}, {times(64, p(0, 0)), api.Place{}, api.ErrForm},
		{[]api.Place{p(8, 1), p(-8, 1), p(0, 60)}, api.Place{}, api.ErrDigit}, {[]api.Place{{}, p(65, 1), p(0, 60)}, api.Place{}, api.ErrRange}, {[]api.Place{p(1), p(65, 1), p(0, 60)}, api.Place{}, api.ErrForm},
	} {
		expectSum(t, x.l, x.want, x.e)
	}
	invalidPlaces(func(x api.Place, want api.Errno) { expectSum(t, []api.Place{p(0, 1), x, p(0, 60)}, api.Place{}, want) })
}

// P3.11
func TestSumIsExact(t *testing.T) {
	random := newRandom()
	failed := 0
	for range 4000 {
		var l []api.Place
		exact := new(big.Int)
		most := []int{2, 5, 64}[random.IntN(3)]
		for range random.IntN(65) {
			x := somePlace(random, most)
			x.D = x.D[:min(len(x.D), 12)]
			if place.CheckPlace(x) != api.OK {
				continue
			}
			l = append(l, x)
			exact.Add(exact, new(big.Int).Mul(wholeOf(x.D), power(60, x.Shift+64)))
		}
		want, wantError := placeOf(exact, -64)
		expectSum(t, l, want, wantError)
		if wantError != api.OK {
			failed++
		}
	}
	if failed < 500 || failed > 3500 {
		t.Errorf("%d sums that are no numbers, of 4000", failed)
	}
}

func expectOrder(t *testing.T, a, b api.Place, want int, wantError api.Errno) {
	t.Helper()
	n, e := place.Compare(a, b)
	expect(t, fmt.Sprintf("Compare(%v, %v)", a, b), n, e, want, wantError)
}

// P3.11
func TestCompare(t *testing.T) {
	increasing := []api.Place{{}, p(-64, 1), p(-64, 2), p(-64, 1, 1), p(-60, 1), p(-1, 30), p(-16, repeated(16, 59)...), p(0, 1), p(-15, append(append(d(1), repeated(14, 0)...), 1)...), p(-1, 1, 1), p(0, 59), p(-1, 59, 59), p(1, 1), p(-14, append(append(d(1), repeated(14, 0)...), 1)...), p(0, 1, 1), p(0, 1, 59), p(0, 2, 1), p(1, 59), p(64, 1), p(64, 59, 59)}
	for i, a := range increasing {
		for j, b := range increasing {
			expectOrder(t, a, b, whole(i).Cmp(whole(j)), api.OK)
		}
	}
}

// P3.11: the errors of a come before those of b.
func TestCompareOfInvalidPlaces(t *testing.T) {
	invalidPlaces(func(x api.Place, want api.Errno) {
		expectOrder(t, x, p(0, 1), 0, want)
		expectOrder(t, p(0, 1), x, 0, want)
		for _, other := range []api.Place{p(0, 60), p(0, 0), p(65, 1), p(0, repeated(17, 1)...)} {
			expectOrder(t, x, other, 0, want)
		}
	})
}

// P3.11
func TestCompareIsExact(t *testing.T) {
	random := newRandom()
	for range 10000 {
		a, b := somePlace(random, 3), somePlace(random, 3)
		if random.IntN(3) == 0 {
			b = p(a.Shift, slices.Clone(a.D)...)
		}
		expectOrder(t, a, b, ratOf(a).Cmp(ratOf(b)), api.OK)
	}
}

// fitted returns the ratio of x, or ErrBig if it has none, by the definition.
func fitted(x *big.Rat) (api.Ratio, api.Errno) {
	if x.Num().Cmp(power(2, 40)) > 0 || x.Denom().Cmp(power(2, 20)) > 0 {
		return api.Ratio{}, api.ErrBig
	}
	return api.Ratio{N: int(x.Num().Int64()), D: int(x.Denom().Int64())}, api.OK
}

func expectRatio(t *testing.T, x api.Place, want api.Ratio, wantError api.Errno) {
	t.Helper()
	r, e := place.Ratio(x)
	expect(t, fmt.Sprint("Ratio", x), r, e, want, wantError)
}

func ratio(n, d int) api.Ratio { return api.Ratio{N: n, D: d} }

// P3.12
func TestRatio(t *testing.T) {
	long, e := placeOf(new(big.Int).Mul(power(2, 40), power(20, 12)), -12)
	expect(t, "digits of 2^40 times 20^12", len(long.D), e, 16, api.OK)
	for _, x := range []struct {
		x    api.Place
		want api.Ratio
		e    api.Errno
	}{
		{api.Place{}, ratio(0, 1), api.OK}, {p(-2, 37, 30), ratio(5, 8), api.OK}, {p(1, 1), ratio(60, 1), api.OK}, {p(-1, 20), ratio(1, 3), api.OK}, {p(-1, 1, 30), ratio(3, 2), api.OK}, {p(6, 23), ratio(23*46656000000, 1), api.OK}, {p(6, 24), ratio(0, 0), api.ErrBig}, {p(7, 1), ratio(0, 0), api.ErrBig}, {p(64, 1), ratio(0, 0), api.ErrBig}, {p(64, repeated(16, 59)...), ratio(0, 0), api.ErrBig},
		{p(-3, 1), ratio(1, 216000), api.OK}, {p(-4, 1), ratio(0, 0), api.ErrBig}, {p(-64, 1), ratio(0, 0), api.ErrBig}, {p(-64, repeated(16, 59)...), ratio(0, 0), api.ErrBig}, {p(-16, repeated(16, 59)...), ratio(0, 0), api.ErrBig},
		{long, ratio(1<<40, 531441), api.OK},
	} {
		expectRatio(t, x.x, x.want, x.e)
	}
	invalidPlaces(func(x api.Place, want api.Errno) { expectRatio(t, x, api.Ratio{}, want) })
}

// P3.12
func TestRatioIsExact(t *testing.T) {
	random := newRandom()
	found := 0
	for range 10000 {
		x := somePlace(random, 10)
		if random.IntN(2) == 0 { // a number that has a ratio, or nearly so
			x, _ = placeOf(new(big.Int).Mul(whole(random.IntN(1<<random.IntN(44))), product(random.IntN(12), random.IntN(8), random.IntN(8))), -random.IntN(11))
		}
		want, wantError := fitted(ratOf(x))
		expectRatio(t, x, want, wantError)
		if wantError == api.OK {
			found++
		}
	}
	if found < 1000 || found > 9000 {
		t.Errorf("%d ratios of 10000 numbers", found)
	}
}

func expectFromRatio(t *testing.T, r api.Ratio, want api.Place, wantError api.Errno) {
	t.Helper()
	x, e := place.FromRatio(r)
	expectPlace(t, fmt.Sprint("FromRatio", r), x, e, want, wantError)
}

// P3.12
func TestFromRatio(t *testing.T) {
	for r, want := range map[api.Ratio]api.Place{ratio(0, 1): {}, ratio(1, 1): p(0, 1), ratio(5, 8): p(-2, 37, 30), ratio(60, 1): p(1, 1), ratio(1, 60): p(-1, 1), ratio(7, 60): p(-1, 7), ratio(61, 3600): p(-2, 1, 1), ratio(1, 3): p(-1, 20), ratio(3, 2): p(-1, 1, 30), ratio(1, 216000): p(-3, 1)} {
		expectFromRatio(t, r, want, api.OK)
	}
	for _, r := range []api.Ratio{{}, ratio(2, 4), ratio(-1, 2), ratio(-1, 7), ratio(-1, 1), ratio(1, -2), ratio(-1, -2), ratio(0, 2), ratio(0, 7), ratio(7, 7), ratio(1<<40+1, 1), ratio(1, 1<<21), ratio(leastInt, 1), ratio(1, leastInt), ratio(mostInt, mostInt)} {
		expectFromRatio(t, r, api.Place{}, api.ErrArg)
	}
	for _, r := range []api.Ratio{ratio(1, 7), ratio(6, 7), ratio(1, 14), ratio(1<<40, 59), ratio(1, 1<<20-1), ratio(1, 420)} {
		expectFromRatio(t, r, api.Place{}, api.ErrIrregular)
	}
}

// forRatios calls f with ratios that can be written as place-value numbers, with all denominators.
func forRatios(f func(r api.Ratio)) {
	random := newRandom()
	for two := range 21 {
		for three := range 13 {
			for five := range 9 {
				bottom := product(two, three, five)
				if bottom.Cmp(power(2, 20)) > 0 {
					continue
				}
				for _, n := range []int{0, 1, 7, 60, 1 << 40, 1<<40 - 1, 3 * 1 << 38, random.IntN(1 << 40), random.IntN(1 << 20)} {
					if r, e := metro.Ratio(n, int(bottom.Int64())); e == api.OK {
						f(r)
					}
				}
			}
		}
	}
}

// P3.12, P3.18: all denominators that are regular, each with the greatest numerators, are written, and read back.
func TestRatiosAreReadBack(t *testing.T) {
	forRatios(func(r api.Ratio) {
		x, e := place.FromRatio(r)
		if e != api.OK || place.CheckPlace(x) != api.OK || ratOf(x).Cmp(big.NewRat(int64(r.N), int64(r.D))) != 0 {
			t.Errorf("FromRatio(%v): %v, error %d", r, x, e)
		}
		expectRatio(t, x, r, api.OK)
	})
}

// P3.18: a smaller ratio is compared as smaller.
func TestRatiosKeepTheirOrder(t *testing.T) {
	before := api.Ratio{N: 1, D: 2}
	forRatios(func(r api.Ratio) {
		a, e := place.FromRatio(before)
		b, f := place.FromRatio(r)
		want, g := metro.Cmp(before, r)
		expect(t, fmt.Sprintf("%v and %v", before, r), e, f, g, api.OK)
		expectOrder(t, a, b, want, api.OK)
		before = r
	})
}
