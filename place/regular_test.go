package place_test

import (
	"fmt"
	"math/big"
	"slices"
	"testing"

	"bulla/api"
	"bulla/place"
)

func expectRegular(t *testing.T, a []int, want [3]int, wantError api.Errno) {
	t.Helper()
	two, three, five, e := place.Regular(a)
	expect(t, fmt.Sprint("Regular", a), [3]int{two, three, five}, e, want, wantError)
}

func expectRecip(t *testing.T, a []int, want []int, wantError api.Errno) {
	t.Helper()
	b, e := place.Recip(a)
	expectDigits(t, fmt.Sprint("Recip", a), b, e, want, wantError)
}

// P3.6
func TestRegular(t *testing.T) {
	for _, x := range []struct {
		a    []int
		want [3]int
		e    api.Errno
	}{
		{d(1), [3]int{}, api.OK}, {d(44, 26, 40), [3]int{8, 0, 4}, api.OK}, {d(2), [3]int{1, 0, 0}, api.OK}, {d(3), [3]int{0, 1, 0}, api.OK}, {d(5), [3]int{0, 0, 1}, api.OK}, {d(1, 0, 0, 0, 1), [3]int{}, api.ErrIrregular}, {d(30), [3]int{1, 1, 1}, api.OK}, {d(1, 21), [3]int{0, 4, 0}, api.OK},
		{d(7), [3]int{}, api.ErrIrregular}, {d(14), [3]int{}, api.ErrIrregular}, {d(59), [3]int{}, api.ErrIrregular}, {d(1, 1), [3]int{}, api.ErrIrregular}, {repeated(16, 59), [3]int{}, api.ErrIrregular}, {nil, [3]int{}, api.ErrZero},
	} {
		expectRegular(t, x.a, x.want, x.e)
	}
	forInvalid(func(a []int, want api.Errno) { expectRegular(t, a, [3]int{}, want) })
}

// P3.6
func TestRecip(t *testing.T) {
	for _, x := range []struct {
		a, want []int
		e       api.Errno
	}{
		{d(1, 21), d(44, 26, 40), api.OK}, {d(44, 26, 40), d(1, 21), api.OK}, {d(1), d(1), api.OK}, {d(2), d(30), api.OK}, {d(30), d(2), api.OK}, {d(1, 4), d(56, 15), api.OK}, {d(2, 5), d(28, 48), api.OK}, {d(54), d(1, 6, 40), api.OK},
		{d(7), nil, api.ErrIrregular}, {d(1, 10), nil, api.ErrIrregular}, {repeated(16, 59), nil, api.ErrIrregular}, {nil, nil, api.ErrZero},
		{digitsFor(t, power(5, 27)), nil, api.ErrLimit}, {digitsFor(t, power(3, 59)), nil, api.ErrLimit}, {digitsFor(t, power(2, 94)), nil, api.ErrLimit},
	} {
		expectRecip(t, x.a, x.want, x.e)
	}
	forInvalid(func(a []int, want api.Errno) { expectRecip(t, a, nil, want) })
}

// P3.6: all regular digits, and digits that are not.
func TestAllRegularDigits(t *testing.T) {
	found, failed := 0, 0
	forRegular(1, func(a []int, two, three, five int) {
		expectRegular(t, a, [3]int{two, three, five}, api.OK)
		want, wantError := recipOf(a)
		expectRecip(t, a, want, wantError)
		if wantError != api.OK {
			failed++
		}
		found++
		if b, e := limited(new(big.Int).Mul(wholeOf(a), whole(7+4*(found%2)))); e == api.OK {
			expectRegular(t, b, [3]int{}, api.ErrIrregular)
			expectRecip(t, b, nil, api.ErrIrregular)
		}
	})
	if found < 5000 || failed < 1000 || failed > found-1000 {
		t.Errorf("%d regular digits, %d without a reciprocal", found, failed)
	}
}

// P3.15: digits times their reciprocal are 1, whose reciprocal is the original.
func TestReciprocalsLeadBack(t *testing.T) {
	forRegular(3, func(a []int, _, _, _ int) {
		if b, e := place.Recip(a); e == api.OK {
			expectProduct(t, a, b, d(1), api.OK)
			expectRecip(t, b, a, api.OK)
		}
	})
}

// P3.15: the reciprocal of a product is the product of the reciprocals.
func TestReciprocalsOfProducts(t *testing.T) {
	var all [][]int
	forRegular(1, func(a []int, two, three, five int) {
		if two+three+five < 8 {
			all = append(all, a)
		}
	})
	for _, a := range all {
		for _, b := range all {
			x, e := place.Recip(a)
			y, f := place.Recip(b)
			expect(t, "Recip", e, f, api.OK, api.OK)
			expectRecip(t, mul(t, a, b), mul(t, x, y), api.OK)
		}
	}
}

// stepsOf returns the steps, by the definition.
func stepsOf(a []int) []api.Pair {
	var steps []api.Pair
	for rest := wholeOf(a); rest.Cmp(whole(1)) > 0; {
		for f := 81; f > 1; f-- {
			quotient, left := new(big.Int).QuoRem(rest, whole(f), new(big.Int))
			if left.Sign() == 0 {
				digits, _ := digitsOf(whole(f))
				recip, _ := recipOf(digits)
				steps = append(steps, api.Pair{A: digits, B: recip})
				rest = quotient
				break
			}
		}
	}
	return steps
}

func expectSteps(t *testing.T, a []int, want []api.Pair, wantError api.Errno) {
	t.Helper()
	steps, e := place.Steps(a)
	expectPairs(t, fmt.Sprint("Steps", a), steps, e, want, wantError)
}

// P3.7
func TestSteps(t *testing.T) {
	pair := func(a, b []int) api.Pair { return api.Pair{A: a, B: b} }
	for _, x := range []struct {
		a    []int
		want []api.Pair
		e    api.Errno
	}{
		{d(2, 5), []api.Pair{pair(d(25), d(2, 24)), pair(d(5), d(12))}, api.OK}, {d(1), nil, api.OK}, {d(2), []api.Pair{pair(d(2), d(30))}, api.OK}, {d(54), []api.Pair{pair(d(54), d(1, 6, 40))}, api.OK},
		{d(1, 21), []api.Pair{pair(d(1, 21), d(44, 26, 40))}, api.OK}, {d(1, 20), []api.Pair{pair(d(1, 20), d(45))}, api.OK}, {d(1, 15), []api.Pair{pair(d(1, 15), d(48))}, api.OK}, {d(1, 30), []api.Pair{pair(d(45), d(1, 20)), pair(d(2), d(30))}, api.OK}, {d(2, 8), []api.Pair{pair(d(1, 4), d(56, 15)), pair(d(2), d(30))}, api.OK},
		{digitsFor(t, power(3, 9)), []api.Pair{pair(d(1, 21), d(44, 26, 40)), pair(d(1, 21), d(44, 26, 40)), pair(d(3), d(20))}, api.OK},
		{d(7), nil, api.ErrIrregular}, {d(1, 10), nil, api.ErrIrregular}, {nil, nil, api.ErrZero},
	} {
		expectSteps(t, x.a, x.want, x.e)
	}
	forInvalid(func(a []int, want api.Errno) { expectSteps(t, a, nil, want) })
}

// P3.7, P3.16: the factors multiply to the original, their reciprocals to the reciprocal (if it is not too long).
func TestStepsOfRegularDigits(t *testing.T) {
	forRegular(7, func(a []int, _, _, _ int) {
		expectSteps(t, a, stepsOf(a), api.OK)
		steps, _ := place.Steps(a)
		first, second, e := d(1), d(1), api.OK
		for _, s := range steps {
			first = mul(t, first, s.A)
			if e == api.OK {
				second, e = place.Mul(second, s.B)
			}
		}
		expectDigits(t, fmt.Sprintf("the product of Steps(%v)", a), first, api.OK, a, api.OK)
		if e == api.OK {
			expectRecip(t, a, second, api.OK)
		}
	})
}

// pairsOf returns the pairs of all regular numbers of so many digits, by the definition.
func pairsOf(digits int) []api.Pair {
	var pairs []api.Pair
	for n := 1; whole(n).Cmp(power(60, digits)) < 0; n++ {
		rest := n
		for _, prime := range []int{2, 3, 5} {
			for rest%prime == 0 {
				rest /= prime
			}
		}
		if rest == 1 && n%60 != 0 {
			a, _ := digitsOf(whole(n))
			b, _ := recipOf(a)
			pairs = append(pairs, api.Pair{A: a, B: b})
		}
	}
	return pairs
}

// P3.8
func TestPairs(t *testing.T) {
	for digits := 1; digits <= 3; digits++ {
		pairs, e := place.Pairs(digits)
		expectPairs(t, fmt.Sprintf("Pairs(%d)", digits), pairs, e, pairsOf(digits), api.OK)
	}
	pairs, _ := place.Pairs(1)
	if len(pairs) != 25 || !slices.Equal(pairs[6].B, d(7, 30)) || !slices.Equal(pairs[24].A, d(54)) {
		t.Errorf("Pairs(1): %v", pairs)
	}
	for _, digits := range []int{0, 4, -1, leastInt, mostInt} {
		pairs, e := place.Pairs(digits)
		expectPairs(t, fmt.Sprintf("Pairs(%d)", digits), pairs, e, nil, api.ErrRange)
	}
}
