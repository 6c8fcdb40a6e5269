package metro_test

import (
	"math/big"
	"slices"
	"testing"

	"bulla/api"
	"bulla/metro"
)

const (
	mostInt  = 1<<63 - 1
	leastInt = -1 << 63
)

func r(n, d int) api.Ratio { return api.Ratio{N: n, D: d} }

func amount(ladder string, n int) api.Amount { return api.Amount{Ladder: ladder, N: n} }

func bridge(a, signA, b, signB string, q api.Ratio) api.Bridge {
	return api.Bridge{A: a, SignA: signA, B: b, SignB: signB, R: q}
}

// expect compares the result of a call with the value wanted, which with an error is the zero value (R2).
func expect[T comparable](t *testing.T, call string, got T, gotError api.Errno, want T, wantError api.Errno) {
	t.Helper()
	if got != want || gotError != wantError {
		t.Errorf("%s: %v, error %d; want %v, error %d", call, got, gotError, want, wantError)
	}
}

// expectList does so for a list (R3: nil and empty are the same).
func expectList[T comparable](t *testing.T, call string, got []T, gotError api.Errno, want []T, wantError api.Errno) {
	t.Helper()
	if !slices.Equal(got, want) || gotError != wantError {
		t.Errorf("%s: %v, error %d; want %v, error %d", call, got, gotError, want, wantError)
	}
}

// ladder returns a ladder of the units u0, u1 .. with these factors.
func ladder(name string, factors ...int) api.Ladder {
	l := api.Ladder{Name: name}
	for i, f := range factors {
		l.Units = append(l.Units, api.Unit{Sign: "u" + string(rune('0'+i/10)) + string(rune('0'+i%10)), Factor: f})
	}
	return l
}

func standard(t *testing.T, name string) api.Ladder {
	t.Helper()
	for _, l := range metro.Standard() {
		if l.Name == name {
			return l
		}
	}
	t.Fatalf("no standard ladder %s", name)
	return api.Ladder{}
}

// book returns the book of valid ladders and bridges.
func book(t *testing.T, l []api.Ladder, b ...api.Bridge) *metro.Book {
	t.Helper()
	k, e := metro.NewBook(l, b)
	if k == nil || e != api.OK {
		t.Fatalf("NewBook: error %d", e)
	}
	return k
}

// exampleBridges are those of the book of the examples.
func exampleBridges() []api.Bridge {
	return []api.Bridge{bridge("grain", "n01", "weight", "mana", r(1, 2)), bridge("time", "n01", "grain", "n14", r(5, 1))}
}

func exampleBook(t *testing.T) *metro.Book {
	t.Helper()
	return book(t, metro.Standard(), exampleBridges()...)
}

func rat(q api.Ratio) *big.Rat { return big.NewRat(int64(q.N), int64(q.D)) }

// fitted returns the ratio of x, or ErrBig if it has none, by the definition.
func fitted(x *big.Rat) (api.Ratio, api.Errno) {
	n, d := new(big.Int).Abs(x.Num()), x.Denom()
	if n.Cmp(big.NewInt(1<<40)) > 0 || d.Cmp(big.NewInt(1<<20)) > 0 {
		return api.Ratio{}, api.ErrBig
	}
	return r(int(x.Num().Int64()), int(d.Int64())), api.OK
}

// someRatios are small ones, those at the limits, and some between.
func someRatios() []api.Ratio {
	var l []api.Ratio
	for _, d := range []int{1, 2, 3, 7, 60, 1<<20 - 1, 1 << 20} {
		for _, n := range []int{0, 1, 2, 3, 5, 59, 1 << 19, 1<<20 - 1, 1 << 20, 1<<21 + 1, 1<<39 + 7, 1<<40 - 1, 1 << 40} {
			for _, sign := range []int{1, -1} {
				if q, e := fitted(big.NewRat(int64(sign*n), int64(d))); e == api.OK && !slices.Contains(l, q) {
					l = append(l, q)
				}
			}
		}
	}
	return l
}

// noRatios are values of the type that are no ratios.
func noRatios() []api.Ratio {
	return []api.Ratio{{}, r(1, 0), r(0, 2), r(0, -1), r(2, 4), r(-2, 4), r(1, -2), r(-1, -1), r(1<<40+1, 1), r(-1<<40-1, 1), r(1, 1<<20+1), r(leastInt, 1), r(mostInt, 1), r(1, mostInt), r(1, leastInt), r(leastInt, leastInt)}
}
