package place

import (
	"slices"

	"bulla/api"
)

// Regular returns how often 2, 3 and 5 divide a regular number.
func Regular(a []int) (two, three, five int, e api.Errno) {
	x, e := nonzero(a)
	if e != api.OK {
		return 0, 0, 0, e
	}
	return x.exponents()
}

// nonzero returns the whole number of digits, or the error of Check, or ErrZero.
func nonzero(a []int) (number, api.Errno) {
	if e := Check(a); e != api.OK {
		return number{}, e
	}
	if len(a) == 0 {
		return number{}, api.ErrZero
	}
	return numberFrom(a, 0), api.OK
}

// exponents returns how often 2, 3 and 5 divide x, which is not zero, or ErrIrregular if more than 1 remains.
func (x number) exponents() (two, three, five int, e api.Errno) {
	x, two = x.without(2)
	x, three = x.without(3)
	x, five = x.without(5)
	if !x.isOne() {
		return 0, 0, 0, api.ErrIrregular
	}
	return two, three, five, api.OK
}

// without divides x, which is not zero, by a factor greater than 1 as often as possible, and returns how often.
func (x number) without(factor int) (rest number, times int) {
	for {
		quotient, left := x.over(factor)
		if left != 0 {
			return x, times
		}
		x = quotient
		times++
	}
}

// inverse returns the number whose product with x, which is not zero, is the least power of 60, and the exponent of that, or ErrIrregular if there is none.
func (x number) inverse() (y number, exponent int, e api.Errno) {
	two, three, five, e := x.exponents()
	if e != api.OK {
		return number{}, 0, e
	}
	exponent = max((two+1)/2, three, five)
	y = numberOf(1).scaled(2, 2*exponent-two).scaled(3, exponent-three).scaled(5, exponent-five)
	return y, exponent, api.OK
}

// scaled returns x, so many times multiplied by n.
func (x number) scaled(n, times int) number {
	for range times {
		x = x.multiple(n)
	}
	return x
}

// Recip returns the digits of the reciprocal.
func Recip(a []int) ([]int, api.Errno) {
	x, e := nonzero(a)
	if e != api.OK {
		return nil, e
	}
	y, _, e := x.inverse()
	if e != api.OK {
		return nil, e
	}
	p, e := y.place(0)
	return p.D, e
}

// Steps returns factors of a regular number, and their reciprocals.
func Steps(a []int) ([]api.Pair, api.Errno) {
	if _, _, _, e := Regular(a); e != api.OK {
		return nil, e
	}
	var steps []api.Pair
	rest, times := numberFrom(a, 0), 0
	// A factor that does not divide a number divides nothing that remains of it later, so that no factor is greater than one before it.
	for _, factor := range slices.Backward(factors()) {
		rest, times = rest.without(factor)
		for range times {
			steps = append(steps, pairOf(factor))
		}
	}
	return steps, api.OK
}

// factors returns the numbers that a step may split off, increasing. (60 is not among them, but it divides no whole number of digits.)
func factors() []int {
	const most = 81
	return regularUpTo(most)[1:] // the first one is 1
}

// regularUpTo returns the whole numbers of all regular digits up to most, increasing.
func regularUpTo(most int) []int {
	var found []int
	for two := 1; two <= most; two *= 2 {
		for three := two; three <= most; three *= 3 {
			for five := three; five <= most; five *= 5 {
				if five%api.Base != 0 {
					found = append(found, five)
				}
			}
		}
	}
	slices.Sort(found)
	return found
}

// pairOf returns the digits of a small regular number, and those that are reciprocal to it.
func pairOf(n int) api.Pair {
	a, _ := Of(n)
	b, _ := Recip(a)
	return api.Pair{A: a, B: b}
}

// Pairs returns all regular numbers of so many digits, and their reciprocals.
func Pairs(digits int) ([]api.Pair, api.Errno) {
	if !isFrom(1, 3, digits) {
		return nil, api.ErrRange
	}
	var pairs []api.Pair
	for _, n := range regularUpTo(power(digits) - 1) {
		pairs = append(pairs, pairOf(n))
	}
	return pairs, api.OK
}
