package metro_test

import (
	"fmt"
	"math/big"
	"slices"
	"testing"

	"bulla/api"
	"bulla/metro"
)

// P1.1
func TestIsName(t *testing.T) {
	for _, s := range []string{"a", "z", "n01", "a_b", "a_", "az09", "zzzzzzzzzzzzzzzz", "a_23456789012345"} {
		if !metro.IsName(s) {
			t.Errorf("IsName(%q): false", s)
		}
	}
	for _, s := range []string{"", "0a", "9", "_a", "_", "A", "aB", "Za", "a b", "a ", " a", "a-b", "a.", "`a", "{a", "a`", "a{", "a/", "a:", "a@", "a^", "a\x00", "a\n", "é", "aé", "a\xff", "abcdefghijklmnopq", "aaaaaaaaaaaaaaaaa"} {
		if metro.IsName(s) {
			t.Errorf("IsName(%q): true", s)
		}
	}
}

// P1.1
func TestIsRatio(t *testing.T) {
	for _, q := range []api.Ratio{r(0, 1), r(1, 1), r(-1, 1), r(1, 2), r(-3, 2), r(1<<40, 1), r(-1<<40, 1), r(1, 1<<20), r(-1, 1<<20), r(1<<40-1, 1<<20), r(1<<40, 1<<20-1)} {
		if !metro.IsRatio(q) {
			t.Errorf("IsRatio(%v): false", q)
		}
	}
	for _, q := range append(noRatios(), r(1<<40, 1<<20), r(6, 3), r(1<<40, 2), r(15, 25)) {
		if metro.IsRatio(q) {
			t.Errorf("IsRatio(%v): true", q)
		}
	}
}

// P1.1
func TestRatio(t *testing.T) {
	for _, x := range []struct {
		n, d int
		want api.Ratio
		e    api.Errno
	}{
		{6, -4, r(-3, 2), api.OK}, {-6, -4, r(3, 2), api.OK}, {-6, 4, r(-3, 2), api.OK}, {7, 7, r(1, 1), api.OK},
		{0, 5, r(0, 1), api.OK}, {0, -5, r(0, 1), api.OK}, {0, leastInt, r(0, 1), api.OK},
		{1, 0, r(0, 0), api.ErrZero}, {0, 0, r(0, 0), api.ErrZero}, {leastInt, 0, r(0, 0), api.ErrZero},
		{1, 1 << 20, r(1, 1<<20), api.OK}, {1, -1 << 20, r(-1, 1<<20), api.OK}, {1, 1<<20 + 1, r(0, 0), api.ErrBig}, {1, -1<<20 - 1, r(0, 0), api.ErrBig},
		{1 << 40, 1, r(1<<40, 1), api.OK}, {-1 << 40, 1, r(-1<<40, 1), api.OK}, {1<<40 + 1, 1, r(0, 0), api.ErrBig}, {-1<<40 - 1, 1, r(0, 0), api.ErrBig},
		{3 << 40, 3, r(1<<40, 1), api.OK}, {3, 3 << 20, r(1, 1<<20), api.OK}, {1<<40 - 1, 1 << 20, r(1<<40-1, 1<<20), api.OK},
		{leastInt, leastInt, r(1, 1), api.OK}, {leastInt, 1, r(0, 0), api.ErrBig}, {leastInt, -1, r(0, 0), api.ErrBig}, {1, leastInt, r(0, 0), api.ErrBig},
		{leastInt, 1 << 23, r(-1<<40, 1), api.OK}, {leastInt, -1 << 23, r(1<<40, 1), api.OK}, {leastInt, 1 << 22, r(0, 0), api.ErrBig}, {leastInt, -3 << 23, r(1<<40, 3), api.OK},
		{1 << 43, leastInt, r(-1, 1<<20), api.OK}, {1 << 42, leastInt, r(0, 0), api.ErrBig},
		{mostInt, mostInt, r(1, 1), api.OK}, {mostInt, -mostInt, r(-1, 1), api.OK}, {leastInt, mostInt, r(0, 0), api.ErrBig},
	} {
		q, e := metro.Ratio(x.n, x.d)
		expect(t, fmt.Sprintf("Ratio(%d, %d)", x.n, x.d), q, e, x.want, x.e)
	}
}

type operation struct {
	name  string
	f     func(a, b api.Ratio) (api.Ratio, api.Errno)
	exact func(z, x, y *big.Rat) *big.Rat
}

func operations() []operation {
	return []operation{
		{"Add", metro.Add, (*big.Rat).Add}, {"Sub", metro.Sub, (*big.Rat).Sub}, {"Mul", metro.Mul, (*big.Rat).Mul}, {"Div", metro.Div, (*big.Rat).Quo},
	}
}

// P1.2
func TestOperationsAreExact(t *testing.T) {
	l := someRatios()
	for _, o := range operations() {
		for _, a := range l {
			for _, b := range l {
				want, wantError := api.Ratio{}, api.ErrZero
				if o.name != "Div" || b.N != 0 {
					want, wantError = fitted(o.exact(new(big.Rat), rat(a), rat(b)))
				}
				q, e := o.f(a, b)
				expect(t, fmt.Sprintf("%s(%v, %v)", o.name, a, b), q, e, want, wantError)
			}
		}
	}
}

// P1.2
func TestOperationsOnNoRatios(t *testing.T) {
	for _, o := range operations() {
		for _, bad := range noRatios() {
			for _, other := range append(noRatios(), r(0, 1), r(1, 2), r(1<<40, 1)) {
				q, e := o.f(bad, other)
				expect(t, fmt.Sprintf("%s(%v, %v)", o.name, bad, other), q, e, api.Ratio{}, api.ErrArg)
				q, e = o.f(other, bad)
				expect(t, fmt.Sprintf("%s(%v, %v)", o.name, other, bad), q, e, api.Ratio{}, api.ErrArg)
			}
		}
	}
}

// P1.2
func TestOperationsByExample(t *testing.T) {
	for _, x := range []struct {
		o    operation
		a, b api.Ratio
		want api.Ratio
		e    api.Errno
	}{
		{operations()[0], r(1, 3), r(1, 6), r(1, 2), api.OK}, {operations()[1], r(1, 3), r(1, 2), r(-1, 6), api.OK}, {operations()[2], r(2, 3), r(9, 4), r(3, 2), api.OK}, {operations()[3], r(1, 2), r(0, 1), r(0, 0), api.ErrZero},
		{operations()[0], r(1<<40, 1), r(1, 1), r(0, 0), api.ErrBig}, {operations()[0], r(-1<<40, 1), r(1<<40, 1), r(0, 1), api.OK}, {operations()[1], r(1<<40, 1), r(1<<40, 1), r(0, 1), api.OK},
		{operations()[2], r(1<<40, 1), r(1, 1<<20), r(1<<20, 1), api.OK}, {operations()[2], r(1<<32, 1), r(1<<32, 1), r(0, 0), api.ErrBig}, {operations()[3], r(1<<40, 1), r(-1<<40, 1), r(-1, 1), api.OK}, {operations()[3], r(1, 1), r(1<<21, 1), r(0, 0), api.ErrBig},
	} {
		q, e := x.o.f(x.a, x.b)
		expect(t, fmt.Sprintf("%s(%v, %v)", x.o.name, x.a, x.b), q, e, x.want, x.e)
	}
}

func repeated(n int, q api.Ratio) []api.Ratio { return slices.Repeat([]api.Ratio{q}, n) }

// P1.2
func TestProduct(t *testing.T) {
	most, least := r(1<<40, 1), r(1, 1<<20)
	for i, x := range []struct {
		l    []api.Ratio
		want api.Ratio
		e    api.Errno
	}{
		{nil, r(1, 1), api.OK}, {[]api.Ratio{}, r(1, 1), api.OK}, {[]api.Ratio{r(-2, 3)}, r(-2, 3), api.OK}, {[]api.Ratio{r(-2, 3), r(-9, 4), r(-1, 5)}, r(-3, 10), api.OK},
		{[]api.Ratio{most, most, least, least, least, least}, r(1, 1), api.OK}, {[]api.Ratio{least, least, least, least, most, most}, r(1, 1), api.OK}, {[]api.Ratio{most, r(1, 3), most, r(3, 1), least, least}, r(1<<40, 1), api.OK},
		{[]api.Ratio{most, most, r(0, 1)}, r(0, 1), api.OK}, {[]api.Ratio{r(0, 1), least, least, r(-1, 1)}, r(0, 1), api.OK}, {[]api.Ratio{most, most}, r(0, 0), api.ErrBig}, {[]api.Ratio{least, least}, r(0, 0), api.ErrBig},
		{[]api.Ratio{most, r(-1, 1)}, r(-1<<40, 1), api.OK}, {[]api.Ratio{r(1<<32, 1), r(1<<32, 1), r(3, 1)}, r(0, 0), api.ErrBig}, {[]api.Ratio{r(1, 1<<16), r(1, 1<<16), r(1, 1<<16), r(1, 1<<16)}, r(0, 0), api.ErrBig},
		{repeated(64, r(-1, 1)), r(1, 1), api.OK}, {repeated(63, r(-1, 1)), r(-1, 1), api.OK}, {repeated(40, r(2, 1)), r(1<<40, 1), api.OK}, {repeated(41, r(2, 1)), r(0, 0), api.ErrBig}, {repeated(64, most), r(0, 0), api.ErrBig},
		{append(repeated(32, r(1<<40-1, 1<<20)), repeated(32, r(1<<20, 1<<20-1))...), r(0, 0), api.ErrBig},
		{repeated(65, r(1, 1)), r(0, 0), api.ErrLimit}, {make([]api.Ratio, 65), r(0, 0), api.ErrLimit}, {make([]api.Ratio, 64), r(0, 0), api.ErrArg},
		{[]api.Ratio{most, most, r(2, 4)}, r(0, 0), api.ErrArg}, {[]api.Ratio{r(0, 1), r(0, 2)}, r(0, 0), api.ErrArg}, {[]api.Ratio{r(1, 1), r(1, -1)}, r(0, 0), api.ErrArg},
	} {
		q, e := metro.Product(x.l)
		expect(t, fmt.Sprintf("Product %d", i), q, e, x.want, x.e)
	}
}

// mixed returns 64 ratios, many of which cancel each other out.
func mixed(start int) []api.Ratio {
	var l []api.Ratio
	some := someRatios()
	for i := range 32 {
		q := some[(start+i*i)%len(some)]
		if back, e := metro.Ratio(q.D, q.N); e == api.OK {
			l = append(l, q, back)
		} else {
			l = append(l, r(1, 1<<20), r(1<<20-1, 7))
		}
	}
	return l
}

// P1.2
func TestProductIsExact(t *testing.T) {
	for start := range 20 {
		l, exact := mixed(start), big.NewRat(1, 1)
		for i, q := range l {
			exact.Mul(exact, rat(q))
			want, wantError := fitted(exact)
			got, e := metro.Product(l[:i+1])
			expect(t, fmt.Sprintf("Product(%v)", l[:i+1]), got, e, want, wantError)
		}
	}
}

// P1.3
func TestCmp(t *testing.T) {
	l := someRatios()
	for _, a := range l {
		for _, b := range l {
			n, e := metro.Cmp(a, b)
			expect(t, fmt.Sprintf("Cmp(%v, %v)", a, b), n, e, rat(a).Cmp(rat(b)), api.OK)
		}
	}
	n, e := metro.Cmp(r(1, 3), r(1, 2))
	expect(t, "Cmp(1/3, 1/2)", n, e, -1, api.OK)
	n, e = metro.Cmp(r(-1, 3), r(-1, 2))
	expect(t, "Cmp(-1/3, -1/2)", n, e, 1, api.OK)
	for _, bad := range append(noRatios(), r(2, 6)) {
		n, e = metro.Cmp(r(1, 3), bad)
		expect(t, fmt.Sprintf("Cmp(1/3, %v)", bad), n, e, 0, api.ErrArg)
		n, e = metro.Cmp(bad, r(1, 3))
		expect(t, fmt.Sprintf("Cmp(%v, 1/3)", bad), n, e, 0, api.ErrArg)
	}
}

// P1.3
func TestFloor(t *testing.T) {
	for _, x := range []struct {
		a    api.Ratio
		n    int
		rest api.Ratio
	}{
		{r(-1, 6), -1, r(5, 6)}, {r(7, 3), 2, r(1, 3)}, {r(-7, 3), -3, r(2, 3)}, {r(-6, 1), -6, r(0, 1)}, {r(6, 1), 6, r(0, 1)}, {r(0, 1), 0, r(0, 1)}, {r(1, 2), 0, r(1, 2)},
		{r(1<<40, 1), 1 << 40, r(0, 1)}, {r(-1<<40, 1), -1 << 40, r(0, 1)}, {r(-1, 1<<20), -1, r(1<<20-1, 1<<20)}, {r(1<<40-1, 1<<20), 1<<20 - 1, r(1<<20-1, 1<<20)},
	} {
		n, rest, e := metro.Floor(x.a)
		expect(t, fmt.Sprintf("Floor(%v)", x.a), n, e, x.n, api.OK)
		expect(t, fmt.Sprintf("rest of Floor(%v)", x.a), rest, e, x.rest, api.OK)
	}
	for _, bad := range noRatios() {
		n, rest, e := metro.Floor(bad)
		expect(t, fmt.Sprintf("Floor(%v)", bad), n, e, 0, api.ErrArg)
		expect(t, fmt.Sprintf("rest of Floor(%v)", bad), rest, e, api.Ratio{}, api.ErrArg)
	}
}

// P1.3: the rest is a ratio from 0 up to 1, and nothing is lost.
func TestFloorAndRest(t *testing.T) {
	for _, a := range someRatios() {
		n, rest, e := metro.Floor(a)
		if e != api.OK || !metro.IsRatio(rest) || rest.N < 0 || rest.N >= rest.D || rat(a).Cmp(new(big.Rat).Add(rat(r(n, 1)), rat(rest))) != 0 {
			t.Errorf("Floor(%v): %d and %v, error %d", a, n, rest, e)
		}
	}
}

// P1.14
func TestOperationsUndo(t *testing.T) {
	l := someRatios()
	for _, a := range l {
		for _, b := range l {
			expectSwapped(t, operations()[0], a, b)
			expectSwapped(t, operations()[2], a, b)
			if s, e := metro.Add(a, b); e == api.OK {
				q, e := metro.Sub(s, b)
				expect(t, fmt.Sprintf("%v + %v - %v", a, b, b), q, e, a, api.OK)
			}
			if p, e := metro.Mul(a, b); e == api.OK && b.N != 0 {
				q, e := metro.Div(p, b)
				expect(t, fmt.Sprintf("%v * %v / %v", a, b, b), q, e, a, api.OK)
			}
		}
	}
}

func expectSwapped(t *testing.T, o operation, a, b api.Ratio) {
	t.Helper()
	q, e := o.f(a, b)
	p, f := o.f(b, a)
	expect(t, fmt.Sprintf("%s(%v, %v), turned round", o.name, a, b), p, f, q, e)
}

// P1.14
func TestCmpIsAnOrder(t *testing.T) {
	var l []api.Ratio
	for i, q := range someRatios() {
		if i%4 == 0 {
			l = append(l, q)
		}
	}
	for _, a := range l {
		for _, b := range l {
			ab, _ := metro.Cmp(a, b)
			ba, _ := metro.Cmp(b, a)
			if ab != -ba || (ab == 0) != (a == b) {
				t.Errorf("Cmp(%v, %v): %d, turned round %d", a, b, ab, ba)
			}
			for _, c := range l {
				expectOrder(t, a, b, c, ab)
			}
		}
	}
}

func expectOrder(t *testing.T, a, b, c api.Ratio, ab int) {
	t.Helper()
	bc, _ := metro.Cmp(b, c)
	if ac, _ := metro.Cmp(a, c); ab < 0 && bc < 0 && ac >= 0 {
		t.Errorf("%v is less than %v, and that than %v, but Cmp of the first and the last is %d", a, b, c, ac)
	}
	s, e := metro.Add(a, c)
	u, f := metro.Add(b, c)
	if e != api.OK || f != api.OK {
		return
	}
	if n, _ := metro.Cmp(s, u); n != ab {
		t.Errorf("Cmp(%v, %v): %d, but after adding %v: %d", a, b, ab, c, n)
	}
}
