package place

import (
	"cmp"

	"bulla/api"
)

// Mul returns the digits of a product.
func Mul(a, b []int) ([]int, api.Errno) {
	if e := cmp.Or(Check(a), Check(b)); e != api.OK {
		return nil, e
	}
	p, e := numberFrom(a, 0).times(numberFrom(b, 0)).place(0)
	return p.D, e
}

// Table returns the table of a head.
func Table(head []int) (rows [][]int, e api.Errno) {
	if e := Check(head); e != api.OK {
		return nil, e
	}
	thrown := attempt(func() { rows = filled(numberFrom(head, 0).row) })
	return rows, thrown.e
}

// filled returns the rows of a table, in their order.
func filled(row func(n int) []int) [][]int {
	var rows [][]int
	for n := range 20 {
		rows = append(rows, row(n+1))
	}
	return append(rows, row(30), row(40), row(50))
}

// row returns the digits of the product with n, or throws ErrLimit.
func (x number) row(n int) []int { return x.contribution(n, 0).D }

// contribution returns the product with n, times 60 to the power after, or throws ErrLimit.
func (x number) contribution(n, after int) api.Place {
	p, e := x.multiple(n).place(after)
	if e != api.OK {
		panic(fault{e: e})
	}
	return p
}

// ByTable returns the partial products by the table of a head.
func ByTable(head, b []int) (products []api.Place, e api.Errno) {
	if e := cmp.Or(Check(head), Check(b)); e != api.OK {
		return nil, e
	}
	if len(head) == 0 {
		return nil, api.OK
	}
	thrown := attempt(func() { products = contributions(b, numberFrom(head, 0).contribution) })
	return products, thrown.e
}

// contributions returns what each digit of b contributes, the most significant one first.
func contributions(b []int, contribution func(n, after int) api.Place) []api.Place {
	var products []api.Place
	for i, d := range b {
		for _, n := range rowsOf(d) {
			products = append(products, contribution(n, len(b)-1-i))
		}
	}
	return products
}

// rowsOf returns the rows of a table in which a digit is looked up.
func rowsOf(d int) []int {
	switch {
	case d == 0:
		return nil
	case d <= 20 || d%10 == 0:
		return []int{d}
	}
	return []int{d - d%10, d % 10}
}
