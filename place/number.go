package place

import (
	"slices"

	"bulla/api"
)

// room is enough for all numbers: the greatest one is the sum of MaxPlaces numbers with the greatest shift, in units of the least shift.
const room = 2*api.MaxShift + api.MaxDigits + 2

// number is a whole number that is calculated with. The array contains its digits, the least significant one first, and zeros after the most significant one, so that only equal numbers have equal arrays.
type number struct {
	digits [room]uint8
}

// numberOf returns n, which is not negative.
func numberOf(n int) number {
	var x number
	for i := 0; n > 0; i++ {
		x.digits[i] = uint8(n % api.Base)
		n /= api.Base
	}
	return x
}

// numberFrom returns the whole number of valid digits, times 60 to the power zeros.
func numberFrom(a []int, zeros int) number {
	var x number
	for i, d := range slices.Backward(a) {
		x.digits[zeros+len(a)-1-i] = uint8(d)
	}
	return x
}

// held returns the number whose digits are in a list, the least significant one first.
func held(l []uint8) number {
	var x number
	copy(x.digits[:], l)
	return x
}

// used returns a copy of the digits up to the most significant one.
func (x number) used() []uint8 {
	count := room
	for count > 0 && x.digits[count-1] == 0 {
		count--
	}
	return x.digits[:count]
}

// plus returns x + y.
func (x number) plus(y number) number {
	return held(add(x.used(), y.used(), 1, 0))
}

// times returns x times y.
func (x number) times(y number) number {
	return held(multiply(x.used(), y.used()))
}

// multiple returns x times n.
func (x number) multiple(n int) number {
	return held(multiply(x.used(), []int{n}))
}

// over returns x divided by n, and the rest.
func (x number) over(n int) (quotient number, rest int) {
	for i, d := range slices.Backward(x.digits[:]) {
		rest = rest*api.Base + int(d)
		quotient.digits[i] = uint8(rest / n)
		rest %= n
	}
	return quotient, rest
}

// isOne reports whether x is 1.
func (x number) isOne() bool { return x.digits == numberOf(1).digits }

// toInt returns x, or ErrBig if it is greater than MaxNum.
func (x number) toInt() (int, api.Errno) {
	n := 0
	for _, d := range slices.Backward(x.used()) {
		n = n*api.Base + int(d)
		if n > api.MaxNum {
			return 0, api.ErrBig
		}
	}
	return n, api.OK
}

// place returns x times 60 to the power shift, or ErrLimit if that is no valid place-value number.
func (x number) place(shift int) (api.Place, api.Errno) {
	digits := x.used()
	if len(digits) == 0 {
		return api.Place{}, api.OK
	}
	p := api.Place{Shift: shift}
	for digits[0] == 0 {
		digits = digits[1:]
		p.Shift++
	}
	for _, d := range slices.Backward(digits) {
		p.D = append(p.D, int(d))
	}
	if CheckPlace(p) != api.OK {
		return api.Place{}, api.ErrLimit
	}
	return p, api.OK
}

// digit is a digit of a list: a byte holds what is less than 60, an int also what has not been carried yet.
type digit interface {
	uint8 | int
}

// multiply returns the product of two lists of digits, the least significant ones first.
func multiply[A, B digit](a []A, b []B) []A {
	var product []A
	for i, d := range b {
		product = add(product, a, int(d), i)
	}
	return product
}

// add adds b, times a factor, to the digits of a from the one at on; a grows as far as it must.
func add[A, B digit](a []A, b []B, factor, at int) []A {
	carry := 0
	for i := 0; i < len(b) || carry > 0; i++ {
		if i < len(b) {
			carry += int(b[i]) * factor
		}
		for len(a) <= at+i {
			a = append(a, 0)
		}
		carry += int(a[at+i])
		a[at+i] = A(carry % api.Base)
		carry /= api.Base
	}
	return a
}
