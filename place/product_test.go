package place_test

import (
	"fmt"
	"math/big"
	"slices"
	"testing"

	"bulla/api"
	"bulla/place"
)

func expectProduct(t *testing.T, a, b []int, want []int, wantError api.Errno) {
	t.Helper()
	c, e := place.Mul(a, b)
	expectDigits(t, fmt.Sprintf("Mul(%v, %v)", a, b), c, e, want, wantError)
}

// P3.4
func TestMul(t *testing.T) {
	for _, x := range []struct {
		a, b, want []int
		e          api.Errno
	}{
		{d(44, 26, 40), d(1, 21), d(1), api.OK}, {d(7), d(1, 25), d(9, 55), api.OK}, {d(30), d(2), d(1), api.OK}, {d(59), d(59), d(58, 1), api.OK}, {d(1), d(1), d(1), api.OK}, {d(1, 0, 1), d(1, 0, 1), d(1, 0, 2, 0, 1), api.OK},
		{nil, nil, nil, api.OK}, {nil, d(5), nil, api.OK}, {d(5), nil, nil, api.OK}, {nil, repeated(16, 59), nil, api.OK},
		{repeated(8, 59), repeated(8, 59), append(append(repeated(7, 59), 58), append(repeated(7, 0), 1)...), api.OK},
		{repeated(9, 59), repeated(8, 59), nil, api.ErrLimit}, {repeated(16, 59), repeated(16, 59), nil, api.ErrLimit}, {repeated(16, 59), d(1), repeated(16, 59), api.OK}, {repeated(16, 1), d(59), repeated(16, 59), api.OK}, {repeated(16, 1), d(2, 1), nil, api.ErrLimit},
	} {
		expectProduct(t, x.a, x.b, x.want, x.e)
	}
}

// P3.4: the zeros at the end of a product do not count.
func TestMulWithZeros(t *testing.T) {
	long := digitsFor(t, power(2, 94))
	expectProduct(t, long, d(15), digitsFor(t, power(2, 92)), api.OK)
	expectProduct(t, long, digitsFor(t, power(5, 38)), nil, api.ErrLimit)
	for _, x := range [][3]int{{46, 0, 0}, {0, 21, 0}, {0, 0, 26}} {
		a := digitsFor(t, product(x[0], x[1], x[2]))
		b, e := recipOf(a)
		expect(t, "digits of a reciprocal", len(b), e, 16, api.OK)
		expectProduct(t, a, b, d(1), api.OK)
		expectProduct(t, mul(t, a, d(7)), b, d(7), api.OK)
	}
}

func digitsFor(t *testing.T, n *big.Int) []int {
	t.Helper()
	a, e := limited(n)
	if e != api.OK {
		t.Fatalf("%v has too many digits", n)
	}
	return a
}

// P3.4: the errors of a come before those of b.
func TestMulOfInvalidDigits(t *testing.T) {
	forInvalid(func(a []int, want api.Errno) {
		for _, b := range [][]int{nil, d(1), repeated(16, 59)} {
			expectProduct(t, a, b, nil, want)
			expectProduct(t, b, a, nil, want)
		}
		forInvalid(func(b []int, _ api.Errno) { expectProduct(t, a, b, nil, want) })
	})
}

// P3.4
func TestMulIsExact(t *testing.T) {
	random := newRandom()
	failed := 0
	for range 10000 {
		a, b := someDigits(random, 16), someDigits(random, 8)
		want, wantError := limited(new(big.Int).Mul(wholeOf(a), wholeOf(b)))
		expectProduct(t, a, b, want, wantError)
		if wantError != api.OK {
			failed++
		}
	}
	if failed < 1000 || failed > 9000 {
		t.Errorf("%d products with too many digits, of 10000", failed)
	}
}

// P3.14
func TestMulIsCommutativeAndAssociative(t *testing.T) {
	random := newRandom()
	for range 5000 {
		a, b, c := someDigits(random, 9), someDigits(random, 9), someDigits(random, 5)
		ab, e := place.Mul(a, b)
		expectProduct(t, b, a, ab, e)
		bc, f := place.Mul(b, c)
		if e == api.OK && f == api.OK {
			left, e := place.Mul(ab, c)
			right, f := place.Mul(a, bc)
			expectDigits(t, fmt.Sprintf("%v * %v * %v", a, b, c), left, e, right, f)
		}
	}
}

// tableRows are the numbers of the rows of a table.
func tableRows() []int {
	return d(1, 2, 3, 4, 5, 6, 7, 8, 9, 10, 11, 12, 13, 14, 15, 16, 17, 18, 19, 20, 30, 40, 50)
}

func expectTable(t *testing.T, head []int, want [][]int, wantError api.Errno) {
	t.Helper()
	rows, e := place.Table(head)
	if !slices.EqualFunc(rows, want, slices.Equal[[]int]) || e != wantError {
		t.Errorf("Table(%v): %v, error %d; want %v, error %d", head, rows, e, want, wantError)
	}
}

// tableOf returns the table of a head, by the definition.
func tableOf(head []int) ([][]int, api.Errno) {
	var rows [][]int
	for _, n := range tableRows() {
		row, e := limited(new(big.Int).Mul(wholeOf(head), whole(n)))
		if e != api.OK {
			return nil, e
		}
		rows = append(rows, row)
	}
	return rows, api.OK
}

// P3.4
func TestTable(t *testing.T) {
	expectTable(t, d(7), [][]int{d(7), d(14), d(21), d(28), d(35), d(42), d(49), d(56), d(1, 3), d(1, 10), d(1, 17), d(1, 24), d(1, 31), d(1, 38), d(1, 45), d(1, 52), d(1, 59), d(2, 6), d(2, 13), d(2, 20), d(3, 30), d(4, 40), d(5, 50)}, api.OK)
	expectTable(t, nil, make([][]int, 23), api.OK)
	expectTable(t, append(d(1, 12), repeated(14, 1)...), nil, api.ErrLimit) // only the row 50 has 17 digits
	expectTable(t, repeated(16, 59), nil, api.ErrLimit)
	forInvalid(func(head []int, want api.Errno) { expectTable(t, head, nil, want) })
	random := newRandom()
	tables := 0
	for range 2000 {
		head := someDigits(random, 15)
		if random.IntN(2) == 0 { // 16 digits, of which the last one often is 30
			head = append(append(d(1), repeated(15-len(head), 0)...), head...)
			head[15] = []int{30, max(1, head[15])}[random.IntN(2)]
			head[1] = random.IntN(20)
		}
		if place.Check(head) != api.OK {
			continue
		}
		want, wantError := tableOf(head)
		expectTable(t, head, want, wantError)
		if wantError == api.OK {
			tables++
		}
	}
	if tables < 500 {
		t.Errorf("only %d tables", tables)
	}
}

// partialsOf returns the partial products, by the definition.
func partialsOf(head, b []int) ([]api.Place, api.Errno) {
	var l []api.Place
	if len(head) == 0 {
		return nil, api.OK
	}
	for i, digit := range b {
		numbers := d(digit)
		if digit > 20 {
			numbers = d(digit/10*10, digit%10)
		}
		for _, n := range numbers {
			x, e := placeOf(new(big.Int).Mul(wholeOf(head), whole(n)), len(b)-1-i)
			if e != api.OK {
				return nil, e
			}
			if n > 0 {
				l = append(l, x)
			}
		}
	}
	return l, api.OK
}

func expectPartials(t *testing.T, head, b []int, want []api.Place, wantError api.Errno) {
	t.Helper()
	l, e := place.ByTable(head, b)
	expectPlaces(t, fmt.Sprintf("ByTable(%v, %v)", head, b), l, e, want, wantError)
}

// P3.5
func TestByTable(t *testing.T) {
	for _, x := range []struct {
		head, b []int
		want    []api.Place
		e       api.Errno
	}{
		{d(7), d(1, 25), []api.Place{p(1, 7), p(0, 2, 20), p(0, 35)}, api.OK},
		{d(7), d(20), []api.Place{p(0, 2, 20)}, api.OK}, {d(7), d(21), []api.Place{p(0, 2, 20), p(0, 7)}, api.OK}, {d(7), d(19), []api.Place{p(0, 2, 13)}, api.OK}, {d(7), d(30), []api.Place{p(0, 3, 30)}, api.OK}, {d(7), d(40), []api.Place{p(0, 4, 40)}, api.OK}, {d(7), d(50), []api.Place{p(0, 5, 50)}, api.OK}, {d(7), d(59), []api.Place{p(0, 5, 50), p(0, 1, 3)}, api.OK},
		{d(30), d(20, 0, 40), []api.Place{p(3, 10), p(1, 20)}, api.OK}, {d(1), append(append(d(1), repeated(14, 0)...), 1), []api.Place{p(15, 1), p(0, 1)}, api.OK},
		{nil, nil, nil, api.OK}, {nil, d(5), nil, api.OK}, {d(5), nil, nil, api.OK},
		{repeated(16, 1), d(59), []api.Place{p(0, repeated(16, 50)...), p(0, repeated(16, 9)...)}, api.OK},
		{repeated(16, 2), d(29), []api.Place{p(0, repeated(16, 40)...), p(0, repeated(16, 18)...)}, api.OK},
		{repeated(16, 3), d(1, 30), nil, api.ErrLimit}, {repeated(16, 7), d(10), nil, api.ErrLimit}, {append(append(d(8), repeated(14, 1)...), 3), d(29), nil, api.ErrLimit}, {repeated(16, 59), d(1), []api.Place{p(0, repeated(16, 59)...)}, api.OK}, {repeated(16, 59), d(1, 2), nil, api.ErrLimit}, {repeated(16, 3), d(2, 10), []api.Place{p(1, repeated(16, 6)...), p(0, repeated(16, 30)...)}, api.OK},
		{repeated(16, 29), d(2, 0, 1), []api.Place{p(2, repeated(16, 58)...), p(0, repeated(16, 29)...)}, api.OK},
	} {
		expectPartials(t, x.head, x.b, x.want, x.e)
	}
}

// P3.4, P3.5: a product with 17 digits, the last one of which is 0, is no error.
func TestTablesWithZeros(t *testing.T) {
	head := append(append(d(2), repeated(14, 1)...), 30)
	want, wantError := tableOf(head)
	expect(t, "rows of a table", len(want), wantError, 23, api.OK)
	expectTable(t, head, want, api.OK)
	expectPartials(t, head, d(1, 50), []api.Place{p(1, head...), p(1, want[22]...)}, api.OK)
	expectPartials(t, repeated(16, 2), d(1, 30), []api.Place{p(1, repeated(16, 2)...), p(1, repeated(16, 1)...)}, api.OK)
}

// P3.5: the errors of the head come before those of b.
func TestByTableOfInvalidDigits(t *testing.T) {
	forInvalid(func(a []int, want api.Errno) {
		for _, b := range [][]int{nil, d(1), repeated(16, 59)} {
			expectPartials(t, a, b, nil, want)
			expectPartials(t, b, a, nil, want)
		}
		forInvalid(func(b []int, _ api.Errno) { expectPartials(t, a, b, nil, want) })
	})
}

// P3.5, P3.16: the partial products are those of the definition, and add up to the product.
func TestPartialProductsAddUp(t *testing.T) {
	random := newRandom()
	for i := range 4000 {
		head, b := someDigits(random, 16), someDigits(random, 16)
		if i < 60 {
			head, b = d(7, 30), slices.DeleteFunc(d(i), func(n int) bool { return n == 0 })
		}
		want, wantError := partialsOf(head, b)
		expectPartials(t, head, b, want, wantError)
		sum := new(big.Rat)
		l, e := place.ByTable(head, b)
		for _, x := range l {
			sum.Add(sum, ratOf(x))
		}
		if all := new(big.Int).Mul(wholeOf(head), wholeOf(b)); e == api.OK && sum.Cmp(new(big.Rat).SetInt(all)) != 0 {
			t.Errorf("ByTable(%v, %v): sum %v, product %v", head, b, sum, all)
		}
	}
}

// P3.16: where all numbers fit, Sum and Mul agree as well.
func TestSumOfPartialProducts(t *testing.T) {
	random := newRandom()
	for range 2000 {
		head, b := someDigits(random, 8), someDigits(random, 7)
		l, e := place.ByTable(head, b)
		sum, f := place.Sum(l)
		expect(t, "ByTable and Sum", e, f, api.OK, api.OK)
		expectDigits(t, fmt.Sprintf("the sum of ByTable(%v, %v)", head, b), sum.D, f, mul(t, head, b), api.OK)
	}
}
