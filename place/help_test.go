package place_test

import (
	"math/big"
	"math/rand/v2"
	"slices"
	"testing"

	"bulla/api"
	"bulla/place"
)

const (
	mostInt  = 1<<63 - 1
	leastInt = -1 << 63
)

// d returns a list of digits.
func d(digits ...int) []int { return digits }

// repeated returns n times the same digit.
func repeated(n, digit int) []int { return slices.Repeat(d(digit), n) }

func p(shift int, digits ...int) api.Place { return api.Place{D: digits, Shift: shift} }

// expect compares the result of a call with the value wanted, which with an error is the zero value (R2).
func expect[T comparable](t *testing.T, call string, got T, gotError api.Errno, want T, wantError api.Errno) {
	t.Helper()
	if got != want || gotError != wantError {
		t.Errorf("%s: %v, error %d; want %v, error %d", call, got, gotError, want, wantError)
	}
}

// expectDigits does so for digits (R3: nil and empty are the same).
func expectDigits(t *testing.T, call string, got []int, gotError api.Errno, want []int, wantError api.Errno) {
	t.Helper()
	if !slices.Equal(got, want) || gotError != wantError {
		t.Errorf("%s: %v, error %d; want %v, error %d", call, got, gotError, want, wantError)
	}
}

func samePlace(a, b api.Place) bool { return slices.Equal(a.D, b.D) && a.Shift == b.Shift }

func expectPlace(t *testing.T, call string, got api.Place, gotError api.Errno, want api.Place, wantError api.Errno) {
	t.Helper()
	if !samePlace(got, want) || gotError != wantError {
		t.Errorf("%s: %v, error %d; want %v, error %d", call, got, gotError, want, wantError)
	}
}

func expectPlaces(t *testing.T, call string, got []api.Place, gotError api.Errno, want []api.Place, wantError api.Errno) {
	t.Helper()
	if !slices.EqualFunc(got, want, samePlace) || gotError != wantError {
		t.Errorf("%s: %v, error %d; want %v, error %d", call, got, gotError, want, wantError)
	}
}

func expectPairs(t *testing.T, call string, got []api.Pair, gotError api.Errno, want []api.Pair, wantError api.Errno) {
	t.Helper()
	same := func(a, b api.Pair) bool { return slices.Equal(a.A, b.A) && slices.Equal(a.B, b.B) }
	if !slices.EqualFunc(got, want, same) || gotError != wantError {
		t.Errorf("%s: %v, error %d; want %v, error %d", call, got, gotError, want, wantError)
	}
}

// invalid returns digits that are not valid, with their errors.
func invalid() map[api.Errno][][]int {
	return map[api.Errno][][]int{
		api.ErrLimit: {repeated(17, 1), repeated(17, 0), repeated(17, 60), repeated(1000, 59), append(repeated(16, 1), -1)},
		api.ErrDigit: {d(60), d(-1), d(1, 60, 1), d(1, -1, 1), d(1, 2, 60), d(leastInt), d(mostInt), d(0, 60), d(60, 0), d(0, -1, 0), repeated(16, 60), append(repeated(15, 0), 60)},
		api.ErrForm:  {d(0), d(0, 0), d(0, 1), d(1, 0), d(0, 5, 0), d(1, 2, 0), d(0, 1, 2), repeated(16, 0), append(repeated(15, 1), 0)},
	}
}

// forInvalid calls f with digits that are not valid, and their error.
func forInvalid(f func(a []int, e api.Errno)) {
	for e, lists := range invalid() {
		for _, a := range lists {
			f(a, e)
		}
	}
}

func whole(n int) *big.Int { return big.NewInt(int64(n)) }

// power returns base to the power n.
func power(base, n int) *big.Int { return new(big.Int).Exp(whole(base), whole(n), nil) }

// product returns 2, 3 and 5 to these powers.
func product(two, three, five int) *big.Int {
	x := power(2, two)
	x.Mul(x, power(3, three))
	return x.Mul(x, power(5, five))
}

// wholeOf returns the whole number of digits, by the definition.
func wholeOf(a []int) *big.Int {
	x := new(big.Int)
	for i, digit := range a {
		x.Add(x, new(big.Int).Mul(whole(digit), power(60, len(a)-1-i)))
	}
	return x
}

// digitsOf returns the digits of a whole number (which may be too many), and how many factors 60 have been taken out.
func digitsOf(n *big.Int) (digits []int, zeros int) {
	for n.Sign() > 0 {
		quotient, rest := new(big.Int).QuoRem(n, whole(60), new(big.Int))
		if rest.Sign() == 0 && len(digits) == 0 {
			zeros++
		} else {
			digits = append(d(int(rest.Int64())), digits...)
		}
		n = quotient
	}
	return digits, zeros
}

// limited returns the digits of a whole number, or ErrLimit if they are too many.
func limited(n *big.Int) ([]int, api.Errno) {
	digits, _ := digitsOf(n)
	if len(digits) > 16 {
		return nil, api.ErrLimit
	}
	return digits, api.OK
}

// placeOf returns the place-value number n times 60 to the power shift, or ErrLimit if there is none.
func placeOf(n *big.Int, shift int) (api.Place, api.Errno) {
	digits, zeros := digitsOf(n)
	if len(digits) == 0 {
		return api.Place{}, api.OK
	}
	if len(digits) > 16 || shift+zeros > 64 || shift+zeros < -64 {
		return api.Place{}, api.ErrLimit
	}
	return p(shift+zeros, digits...), api.OK
}

// ratOf returns the value of a place-value number.
func ratOf(x api.Place) *big.Rat {
	r := new(big.Rat).SetInt(wholeOf(x.D))
	if x.Shift < 0 {
		return r.Quo(r, new(big.Rat).SetInt(power(60, -x.Shift)))
	}
	return r.Mul(r, new(big.Rat).SetInt(power(60, x.Shift)))
}

func newRandom() *rand.Rand { return rand.New(rand.NewPCG(3, 18)) }

// someDigits returns valid digits, of which there are at most so many; many of them are 0 or 59.
func someDigits(random *rand.Rand, most int) []int {
	a := make([]int, random.IntN(most+1))
	for i := range a {
		a[i] = []int{0, 59, random.IntN(60), random.IntN(60)}[random.IntN(4)]
	}
	for len(a) > 0 && a[0] == 0 {
		a = a[1:]
	}
	for len(a) > 0 && a[len(a)-1] == 0 {
		a = a[:len(a)-1]
	}
	return a
}

// somePlace returns a valid place-value number, whose shift is from -most to most.
func somePlace(random *rand.Rand, most int) api.Place {
	digits := someDigits(random, 16)
	if len(digits) == 0 {
		return api.Place{}
	}
	return p(random.IntN(2*most+1)-most, digits...)
}

// forRegular calls f with all regular digits that step allows: every one, or every step-th one.
func forRegular(step int, f func(a []int, two, three, five int)) {
	i := 0
	for two := 0; product(two, 0, 0).Cmp(power(60, 16)) < 0; two++ {
		for three := 0; product(two, three, 0).Cmp(power(60, 16)) < 0; three++ {
			for five := 0; product(two, three, five).Cmp(power(60, 16)) < 0; five++ {
				if two >= 2 && three >= 1 && five >= 1 {
					break // what is divisible by 60 is no whole number of digits
				}
				if i++; i%step == 0 {
					digits, _ := digitsOf(product(two, three, five))
					f(digits, two, three, five)
				}
			}
		}
	}
}

// recipOf returns the digits that are reciprocal to regular ones, by the definition, or ErrLimit if they are too many.
func recipOf(a []int) ([]int, api.Errno) {
	for n := 0; ; n++ {
		quotient, rest := new(big.Int).QuoRem(power(60, n), wholeOf(a), new(big.Int))
		if rest.Sign() == 0 {
			return limited(quotient)
		}
	}
}

func mul(t *testing.T, a, b []int) []int {
	t.Helper()
	c, e := place.Mul(a, b)
	if e != api.OK {
		t.Fatalf("Mul(%v, %v): error %d", a, b, e)
	}
	return c
}
