package account_test

import (
	"fmt"
	"math/rand/v2"
	"slices"
	"strings"
	"testing"

	"bulla/account"
	"bulla/api"
)

// badLots are lists of lots with their errors.
func badLots() map[api.Errno][][]api.Lot {
	bad := [][]api.Lot{
		lots("a", 0), lots("a", 1, "b", 0), lots("b", 1, "a", 1), lots("a", 1, "a", 2), lots("a", 1, "c", 1, "b", 1), lots("a", 1, "a_", 1, "a1", 1),
		lots("a", api.MaxNum+1), lots("a", -api.MaxNum-1), lots("a", mostInt), lots("a", leastInt),
	}
	for _, name := range notNames() {
		bad = append(bad, lots(name, 1), lots(name, 1, "zz", 1))
	}
	long := manyLots("a", 65)
	unordered := append(manyLots("a", 64), api.Lot{})
	return map[api.Errno][][]api.Lot{api.ErrLots: bad, api.ErrLimit: {long, unordered, slices.Repeat(long, 100)}}
}

// P5.1: CheckLots.
func TestCheckLots(t *testing.T) {
	for _, l := range [][]api.Lot{
		nil, {}, lots("a", 1), lots("a", -1), lots("a", api.MaxNum), lots("a", -api.MaxNum), lots(longest, 1), lots("a", 1, "a1", 1, "a_", 1, "aa", 1, "b", 1), manyLots("a", 64),
	} {
		expectError(t, show(l), account.CheckLots(l), api.OK)
	}
	for e, lists := range badLots() {
		for _, l := range lists {
			expectError(t, fmt.Sprintf("CheckLots(%.200s)", show(l)), account.CheckLots(l), e)
		}
	}
}

// P5.1: the errors of invalid lots, first those of a.
func TestInvalidLots(t *testing.T) {
	for e, lists := range badLots() {
		for _, l := range lists {
			for _, b := range [][]api.Lot{nil, lots("a", api.MaxNum), lots("a", 0), manyLots("b", 65)} {
				call := fmt.Sprintf("of %.100s and %.100s", show(l), show(b))
				sum, f := account.Add(l, b)
				expectZero(t, "Add "+call, sum, f, e)
				diff, f := account.Sub(l, b)
				expectZero(t, "Sub "+call, diff, f, e)
				covers, f := account.Covers(l, b)
				expectZero(t, "Covers "+call, covers, f, e)
			}
			a := lots("a", -api.MaxNum)
			call := fmt.Sprintf("of a lot and %.100s", show(l))
			sum, f := account.Add(a, l)
			expectZero(t, "Add "+call, sum, f, e)
			diff, f := account.Sub(a, l)
			expectZero(t, "Sub "+call, diff, f, e)
			covers, f := account.Covers(a, l)
			expectZero(t, "Covers "+call, covers, f, e)
			for _, k := range []int{0, 1, mostInt} {
				scaled, f := account.Scale(l, k)
				expectZero(t, "Scale "+call, scaled, f, e)
			}
		}
	}
}

// P5.1: Add and Sub.
func TestSums(t *testing.T) {
	for _, x := range []struct {
		a, b, sum, diff []api.Lot
		e, f            api.Errno
	}{
		{a: lots("ewes", 3), b: lots("barley", 2, "ewes", -3), sum: lots("barley", 2), diff: lots("barley", -2, "ewes", 6)},
		{b: lots("ewes", 1), sum: lots("ewes", 1), diff: lots("ewes", -1)},
		{a: lots("ewes", 1), sum: lots("ewes", 1), diff: lots("ewes", 1)},
		{},
		{a: lots("a", 1, "c", 3, "e", 5), b: lots("b", 2, "c", 3, "d", 4), sum: lots("a", 1, "b", 2, "c", 6, "d", 4, "e", 5), diff: lots("a", 1, "b", -2, "d", -4, "e", 5)},
		{a: lots("a", api.MaxNum), b: lots("a", 1), e: api.ErrBig, diff: lots("a", api.MaxNum-1)},
		{a: lots("a", api.MaxNum-1), b: lots("a", 1), sum: lots("a", api.MaxNum), diff: lots("a", api.MaxNum-2)},
		{a: lots("a", -api.MaxNum), b: lots("a", 1), sum: lots("a", 1-api.MaxNum), f: api.ErrBig},
		{a: lots("a", -api.MaxNum+1), b: lots("a", 1), sum: lots("a", 2-api.MaxNum), diff: lots("a", -api.MaxNum)},
		{a: lots("a", -api.MaxNum), b: lots("a", -1), e: api.ErrBig, diff: lots("a", 1-api.MaxNum)},
		{a: manyLots("a", 64), b: lots("b", 1), e: api.ErrLimit, f: api.ErrLimit},
		{a: manyLots("a", 63), b: lots("b", 1), sum: append(manyLots("a", 63), api.Lot{Good: "b", N: 1}), diff: append(manyLots("a", 63), api.Lot{Good: "b", N: -1})},
		{a: append(manyLots("a", 63), api.Lot{Good: "b", N: 1}), b: lots("b", -1, "c", 1), sum: append(manyLots("a", 63), api.Lot{Good: "c", N: 1}), f: api.ErrLimit},
		{a: append(manyLots("a", 63), api.Lot{Good: "z", N: api.MaxNum}), b: lots("b", 1, "z", 1), e: api.ErrBig, f: api.ErrLimit},
	} {
		sum, e := account.Add(x.a, x.b)
		expect(t, fmt.Sprintf("Add(%v, %v)", x.a, x.b), sum, e, x.sum, x.e)
		diff, e := account.Sub(x.a, x.b)
		expect(t, fmt.Sprintf("Sub(%v, %v)", x.a, x.b), diff, e, x.diff, x.f)
	}
}

// P5.1: Scale.
func TestScale(t *testing.T) {
	for _, x := range []struct {
		l    []api.Lot
		k    int
		want []api.Lot
		e    api.Errno
	}{
		{l: lots("ewes", 3), k: -2, want: lots("ewes", -6)},
		{l: lots("a", 3, "b", -4), k: 5, want: lots("a", 15, "b", -20)},
		{l: lots("a", 3, "b", -4), k: 0},
		{l: lots("a", api.MaxNum, "b", -api.MaxNum), k: 1, want: lots("a", api.MaxNum, "b", -api.MaxNum)},
		{l: lots("a", api.MaxNum, "b", -api.MaxNum), k: -1, want: lots("a", -api.MaxNum, "b", api.MaxNum)},
		{l: lots("a", api.MaxNum), k: 2, e: api.ErrBig},
		{l: lots("a", api.MaxNum), k: -2, e: api.ErrBig},
		{l: lots("a", -api.MaxNum/4), k: 4, want: lots("a", -api.MaxNum)},
		{l: lots("a", -api.MaxNum/4-1), k: 4, e: api.ErrBig},
		{l: lots("a", 1), k: api.MaxNum, want: lots("a", api.MaxNum)},
		{l: lots("a", 1), k: -api.MaxNum, want: lots("a", -api.MaxNum)},
		{l: lots("a", 1), k: api.MaxNum + 1, e: api.ErrBig},
		{l: lots("a", 1), k: -api.MaxNum - 1, e: api.ErrBig},
		{l: lots("a", 1, "b", 2), k: api.MaxNum, e: api.ErrBig},
		{l: lots("a", -1), k: mostInt, e: api.ErrBig},
		{l: lots("a", -1), k: leastInt, e: api.ErrBig},
		{l: lots("a", 1<<32), k: 1 << 32, e: api.ErrBig}, // the product is 0 in an int
		{l: lots("a", 2), k: 1<<62 + 1, e: api.ErrBig},
		{k: mostInt}, {k: leastInt}, {k: 0},
		{l: manyLots("a", 64), k: 1, want: manyLots("a", 64)},
	} {
		got, e := account.Scale(x.l, x.k)
		expect(t, fmt.Sprintf("Scale(%v, %d)", x.l, x.k), got, e, x.want, x.e)
	}
}

// P5.1: Covers.
func TestCovers(t *testing.T) {
	for _, x := range []struct {
		a, b []api.Lot
		want bool
	}{
		{lots("ewes", 3), lots("ewes", 2), true}, {lots("ewes", 3), lots("ewes", 3), true}, {lots("ewes", 3), lots("ewes", 4), false},
		{lots("ewes", 3), lots("rams", 1), false}, {nil, lots("ewes", -1), true}, {nil, lots("ewes", 1), false}, {lots("ewes", 1), nil, true}, {lots("ewes", -1), nil, false},
		{nil, nil, true}, {lots("a", 1, "b", 5), lots("a", 1, "b", 6), false}, {lots("a", 1, "b", 6, "c", 1), lots("b", 6, "c", 2), false}, {lots("a", 1, "b", 6, "c", 1), lots("b", 6), true},
		{lots("a", -1, "b", 1), lots("a", -2), true}, {lots("b", 1), lots("a", 1), false}, {lots("a", api.MaxNum), lots("a", -api.MaxNum), true}, {lots("a", -api.MaxNum), lots("a", api.MaxNum), false},
		{manyLots("a", 64), manyLots("b", 64), false}, {manyLots("a", 64), manyLots("a", 64), true},
	} {
		got, e := account.Covers(x.a, x.b)
		expect(t, fmt.Sprintf("Covers(%v, %v)", x.a, x.b), got, e, x.want, api.OK)
	}
}

// someLots returns valid lots of a few goods.
func someLots(random *rand.Rand) []api.Lot {
	var l []api.Lot
	for _, name := range strings.Fields("a b ba bb c") {
		if n := random.IntN(9) - 4; n != 0 {
			l = append(l, api.Lot{Good: name, N: n * pick(random, 1, 1, 7, api.MaxNum/4)})
		}
	}
	return l
}

// P5.12: the order and the grouping of sums do not matter, Sub undoes Add, Scale distributes, Covers is a partial order.
func TestGroup(t *testing.T) {
	random := newRandom()
	add := func(a, b []api.Lot) []api.Lot {
		sum, e := account.Add(a, b)
		if e != api.OK {
			return lots("error", int(e))
		}
		return sum
	}
	failed := func(lists ...[]api.Lot) bool {
		return slices.ContainsFunc(lists, func(l []api.Lot) bool { return len(l) > 0 && l[0].Good == "error" })
	}
	covers := func(a, b []api.Lot) bool {
		ok, e := account.Covers(a, b)
		return ok && e == api.OK
	}
	for range 3000 {
		a, b, c := someLots(random), someLots(random), someLots(random)
		ab, ba := add(a, b), add(b, a)
		expect(t, fmt.Sprint("a + b of ", a, b), ab, api.OK, ba, api.OK)
		if left, right := add(ab, c), add(a, add(b, c)); !failed(ab, left, right) && !failed(add(b, c)) {
			expect(t, fmt.Sprint("a + b + c of ", a, b, c), left, api.OK, right, api.OK)
		}
		if !failed(ab) {
			back, e := account.Sub(ab, b)
			expect(t, fmt.Sprint("a + b - b of ", a, b), back, e, a, api.OK)
		}
		none, e := account.Sub(a, a)
		expect(t, "a - a", none, e, nil, api.OK)
		m, n := random.IntN(9)-4, random.IntN(9)-4
		x, e := account.Scale(a, m)
		y, f := account.Scale(a, n)
		z, g := account.Scale(a, m+n)
		if e == api.OK && f == api.OK && g == api.OK {
			expect(t, fmt.Sprint("Scale by a sum of ", a, m, n), z, api.OK, add(x, y), api.OK)
		}
		switch {
		case !covers(a, a):
			t.Errorf("%v does not cover itself", a)
		case covers(a, b) && covers(b, a) && show(a) != show(b):
			t.Errorf("%v and %v cover each other", a, b)
		case covers(a, b) && covers(b, c) && !covers(a, c):
			t.Errorf("%v, %v and %v are not in order", a, b, c)
		}
	}
}
