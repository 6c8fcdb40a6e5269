package place_test

import (
	"fmt"
	"math/big"
	"testing"

	"bulla/api"
	"bulla/place"
)

func expectNear(t *testing.T, n, digits int, wantLow, wantHigh api.Place, wantError api.Errno) {
	t.Helper()
	low, high, e := place.Near(n, digits)
	call := fmt.Sprintf("Near(%d, %d)", n, digits)
	expectPlace(t, call+", low", low, e, wantLow, wantError)
	expectPlace(t, call+", high", high, e, wantHigh, wantError)
}

// P3.9
func TestNear(t *testing.T) {
	for _, x := range []struct {
		n, digits int
		low, high api.Place
	}{
		{7, 3, p(-3, 8, 34, 17), p(-3, 8, 34, 18)}, {7, 1, p(-1, 8), p(-1, 9)}, {8, 2, p(-2, 7, 30), p(-2, 7, 30)}, {8, 1, p(-1, 7), p(-1, 8)}, {8, 8, p(-2, 7, 30), p(-2, 7, 30)},
		{1, 1, p(0, 1), p(0, 1)}, {1, 3, p(0, 1), p(0, 1)}, {1, 8, p(0, 1), p(0, 1)}, {2, 2, p(-1, 30), p(-1, 30)}, {60, 1, p(-1, 1), p(-1, 1)}, {61, 1, p(-2, 59), p(-1, 1)}, {59, 1, p(-1, 1), p(-1, 2)}, {59, 2, p(-2, 1, 1), p(-2, 1, 2)}, {3601, 2, p(-4, 59, 59), p(-2, 1)}, {61, 3, p(-4, 59, 0, 59), p(-3, 59, 1)},
	} {
		expectNear(t, x.n, x.digits, x.low, x.high, api.OK)
	}
}

// P3.9
func TestNearOutOfRange(t *testing.T) {
	for _, n := range []int{0, -1, leastInt, 1<<40 + 1, mostInt} {
		for _, digits := range []int{1, 8, 0, 9} {
			expectNear(t, n, digits, api.Place{}, api.Place{}, api.ErrRange)
		}
	}
	for _, digits := range []int{0, -1, 9, leastInt, mostInt} {
		for _, n := range []int{1, 7, 1 << 40} {
			expectNear(t, n, digits, api.Place{}, api.Place{}, api.ErrRange)
		}
	}
}

// nearOf returns the neighbours of 1/n, by the definition.
func nearOf(n, digits int) (low, high api.Place) {
	for k := 0; ; k++ {
		m, rest := new(big.Int).QuoRem(power(60, k), whole(n), new(big.Int))
		if m.Cmp(power(60, digits-1)) < 0 {
			continue
		}
		low, _ = placeOf(m, -k)
		if rest.Sign() > 0 {
			m.Add(m, whole(1))
		}
		high, _ = placeOf(m, -k)
		return low, high
	}
}

// someNumbers returns numbers from 1 to MaxNum: the limits, small ones, powers and their neighbours, and others.
func someNumbers() []int {
	l := []int{1 << 40, 1<<40 - 1}
	for n := 1; n <= 200; n++ {
		l = append(l, n)
	}
	for power := 60; power < 1<<40; power *= 60 {
		l = append(l, power-1, power, power+1, power/60*59, power/2*3)
	}
	random := newRandom()
	for range 1000 {
		l = append(l, 1+random.IntN(1<<random.IntN(41)))
	}
	return l
}

// P3.9
func TestNearOfSomeNumbers(t *testing.T) {
	for _, n := range someNumbers() {
		for digits := 1; digits <= 8; digits++ {
			low, high := nearOf(n, digits)
			expectNear(t, n, digits, low, high, api.OK)
		}
	}
}

// scale returns k such that x times 60 to the power -k is at least 60 to the power (digits - 1), but less than 60 to the power digits.
func scale(x *big.Rat, digits int) int {
	k := -20
	for most := new(big.Rat).SetInt(power(60, digits)); new(big.Rat).Quo(x, ratOf(p(k, 1))).Cmp(most) >= 0; {
		k++
	}
	return k
}

// P3.17: no number with so many digits lies between the neighbours, which are at most one last digit apart.
func TestNeighboursAreNear(t *testing.T) {
	for _, n := range someNumbers() {
		for digits := 1; digits <= 8; digits++ {
			low, high, e := place.Near(n, digits)
			k := scale(big.NewRat(1, int64(n)), digits)
			m := new(big.Rat).Quo(ratOf(low), ratOf(p(k, 1)))
			apart := new(big.Rat).Sub(ratOf(high), ratOf(low))
			product := new(big.Rat).SetInt(whole(n))
			if e != api.OK || !m.IsInt() || m.Num().Cmp(power(60, digits-1)) < 0 || apart.Cmp(ratOf(p(k, 1))) > 0 {
				t.Errorf("Near(%d, %d): %v and %v, error %d", n, digits, low, high, e)
			}
			if new(big.Rat).Mul(product, ratOf(low)).Cmp(big.NewRat(1, 1)) > 0 || product.Mul(product, ratOf(high)).Cmp(big.NewRat(1, 1)) < 0 {
				t.Errorf("Near(%d, %d): %v and %v are no neighbours", n, digits, low, high)
			}
		}
	}
}

func expectRoot(t *testing.T, n, digits int, want api.Place, wantError api.Errno) {
	t.Helper()
	r, e := place.Root(n, digits)
	expectPlace(t, fmt.Sprintf("Root(%d, %d)", n, digits), r, e, want, wantError)
}

// P3.10
func TestRoot(t *testing.T) {
	for _, x := range []struct {
		n, digits int
		want      api.Place
	}{
		{2, 4, p(-3, 1, 24, 51, 10)}, {2, 1, p(0, 1)}, {2, 5, p(-4, 1, 24, 51, 10, 7)}, {1, 1, p(0, 1)}, {1, 5, p(0, 1)}, {4, 1, p(0, 2)}, {4, 3, p(0, 2)}, {3, 1, p(0, 1)}, {3599, 1, p(0, 59)}, {3599, 2, p(-1, 59, 59)}, {3600, 1, p(1, 1)}, {3601, 1, p(1, 1)}, {5000, 1, p(1, 1)}, {5000, 2, p(0, 1, 10)}, {12960000, 1, p(2, 1)}, {12959999, 1, p(1, 59)}, {1 << 40, 5, p(0, 4, 51, 16, 16)}, {1 << 40, 1, p(3, 4)},
	} {
		expectRoot(t, x.n, x.digits, x.want, api.OK)
	}
}

// P3.10
func TestRootOutOfRange(t *testing.T) {
	for _, n := range []int{0, -1, leastInt, 1<<40 + 1, mostInt} {
		for _, digits := range []int{1, 5, 0, 6} {
			expectRoot(t, n, digits, api.Place{}, api.ErrRange)
		}
	}
	for _, digits := range []int{0, -1, 6, leastInt, mostInt} {
		for _, n := range []int{1, 2, 1 << 40} {
			expectRoot(t, n, digits, api.Place{}, api.ErrRange)
		}
	}
}

// rootOf returns the root of n, by the definition.
func rootOf(n, digits int) api.Place {
	for k := -10; ; k++ {
		square := whole(n)
		if k < 0 {
			square.Mul(square, power(60, -2*k))
		} else {
			square.Quo(square, power(60, 2*k))
		}
		r := square.Sqrt(square)
		if r.Cmp(power(60, digits)) < 0 {
			x, _ := placeOf(r, k)
			return x
		}
	}
}

// P3.10, P3.17: no number with so many digits lies between the root that is returned and the exact one.
func TestRootOfSomeNumbers(t *testing.T) {
	for _, n := range append(someNumbers(), squares()...) {
		for digits := 1; digits <= 5; digits++ {
			expectRoot(t, n, digits, rootOf(n, digits), api.OK)
			x, _ := place.Root(n, digits)
			r := ratOf(x)
			k := scale(r, digits)
			next := new(big.Rat).Add(r, ratOf(p(k, 1)))
			exact := new(big.Rat).SetInt(whole(n))
			if !new(big.Rat).Quo(r, ratOf(p(k, 1))).IsInt() || r.Mul(r, r).Cmp(exact) > 0 || next.Mul(next, next).Cmp(exact) <= 0 {
				t.Errorf("Root(%d, %d): %v is not next to the root", n, digits, x)
			}
		}
	}
}

// squares returns squares, and the numbers before and after them.
func squares() []int {
	var l []int
	for _, r := range []int{2, 3, 7, 59, 60, 61, 3599, 3600, 3601, 59 * 3600, 215999, 216000, 216001, 1<<20 - 1} {
		l = append(l, r*r-1, r*r, r*r+1)
	}
	return l
}
