package metro

import (
	"slices"

	"bulla/api"
)

// Ratio returns the ratio n/d.
func Ratio(n, d int) (api.Ratio, api.Errno) {
	if d == 0 {
		return api.Ratio{}, api.ErrZero
	}
	top, bottom := magnitude(n), magnitude(d)
	common := gcd(top, bottom)
	top, bottom = top/common, bottom/common
	if top > api.MaxNum || bottom > api.MaxDen {
		return api.Ratio{}, api.ErrBig
	}
	r := api.Ratio{N: int(top), D: int(bottom)}
	if (n < 0) != (d < 0) {
		r.N = -r.N
	}
	return r, api.OK
}

// IsRatio reports whether r is a ratio.
func IsRatio(r api.Ratio) bool {
	return 1 <= r.D && r.D <= api.MaxDen && magnitude(r.N) <= api.MaxNum && gcd(magnitude(r.N), magnitude(r.D)) == 1
}

// Add returns a + b.
func Add(a, b api.Ratio) (api.Ratio, api.Errno) {
	// The parts of ratios are small enough for an int to hold the parts of a sum.
	return calculate(a, b, func() (api.Ratio, api.Errno) { return Ratio(a.N*b.D+b.N*a.D, a.D*b.D) })
}

// Sub returns a - b.
func Sub(a, b api.Ratio) (api.Ratio, api.Errno) {
	return calculate(a, b, func() (api.Ratio, api.Errno) { return Ratio(a.N*b.D-b.N*a.D, a.D*b.D) })
}

// Mul returns a times b.
func Mul(a, b api.Ratio) (api.Ratio, api.Errno) {
	return calculate(a, b, func() (api.Ratio, api.Errno) { return quotientOf(a, b).ratio() })
}

// Div returns a divided by b.
func Div(a, b api.Ratio) (api.Ratio, api.Errno) {
	return calculate(a, b, func() (api.Ratio, api.Errno) {
		if b.N == 0 {
			return api.Ratio{}, api.ErrZero
		}
		return quotientOf(a).times(quotientOf(b).inverse()).ratio()
	})
}

// Product returns the product of all.
func Product(l []api.Ratio) (api.Ratio, api.Errno) {
	if len(l) > api.MaxSteps {
		return api.Ratio{}, api.ErrLimit
	}
	for _, r := range l {
		if !IsRatio(r) {
			return api.Ratio{}, api.ErrArg
		}
	}
	return quotientOf(l...).ratio()
}

// Cmp returns -1, 0 or 1.
func Cmp(a, b api.Ratio) (int, api.Errno) {
	switch {
	case !IsRatio(a) || !IsRatio(b):
		return 0, api.ErrArg
	case a.N*b.D < b.N*a.D:
		return -1, api.OK
	case a.N*b.D > b.N*a.D:
		return 1, api.OK
	}
	return 0, api.OK
}

// Floor returns the greatest whole number that is not greater than a, and the rest.
func Floor(a api.Ratio) (n int, rest api.Ratio, e api.Errno) {
	if !IsRatio(a) {
		return 0, api.Ratio{}, api.ErrArg
	}
	n = a.N / a.D
	if n*a.D > a.N { // the division of Go rounds towards zero
		n--
	}
	return n, api.Ratio{N: a.N - n*a.D, D: a.D}, api.OK
}

// calculate returns the result of an operation on a and b if both are ratios.
func calculate(a, b api.Ratio, operation func() (api.Ratio, api.Errno)) (api.Ratio, api.Errno) {
	if !IsRatio(a) || !IsRatio(b) {
		return api.Ratio{}, api.ErrArg
	}
	return operation()
}

// quotient is the product of the numbers in up, divided by those in down (none of which is zero). They are the parts of ratios and the values of signs, kept apart because their product may be too great for any integer type.
type quotient struct {
	up, down []int
}

// quotientOf returns the product of ratios.
func quotientOf(l ...api.Ratio) quotient {
	var q quotient
	for _, r := range l {
		q.up = append(q.up, r.N)
		q.down = append(q.down, r.D)
	}
	return q
}

func (q quotient) times(p quotient) quotient {
	return quotient{slices.Concat(q.up, p.up), slices.Concat(q.down, p.down)}
}

func (q quotient) inverse() quotient { return quotient{q.down, q.up} }

// ratio returns the ratio of q, or ErrBig if there is none.
func (q quotient) ratio() (api.Ratio, api.Errno) {
	if slices.Contains(q.up, 0) {
		return api.Ratio{N: 0, D: 1}, api.OK
	}
	lowest := q.cancelled()
	n, nFits := multiply(lowest.up, api.MaxNum)
	d, dFits := multiply(lowest.down, api.MaxDen)
	if !nFits || !dFits {
		return api.Ratio{}, api.ErrBig
	}
	return Ratio(n, d)
}

// cancelled returns q in lowest terms. Once two numbers have lost their common divisor they never get one again, so that going over each pair once is enough.
func (q quotient) cancelled() quotient {
	up, down := slices.Clone(q.up), slices.Clone(q.down)
	for i := range up {
		for j := range down {
			common := int(gcd(magnitude(up[i]), magnitude(down[j])))
			up[i], down[j] = up[i]/common, down[j]/common
		}
	}
	return quotient{up, down}
}

// multiply returns the product of numbers other than zero, or false if its magnitude is greater than most.
func multiply(l []int, most uint64) (product int, fits bool) {
	product = 1
	for _, x := range l {
		if magnitude(x) > most/magnitude(product) {
			return 0, false
		}
		product *= x
	}
	return product, true
}

// magnitude returns the absolute value of n, which for the least int is no int.
func magnitude(n int) uint64 {
	if n < 0 {
		return -uint64(n)
	}
	return uint64(n)
}

// gcd returns the greatest common divisor of two numbers that are not both zero.
func gcd(a, b uint64) uint64 {
	for b != 0 {
		a, b = b, a%b
	}
	return a
}
