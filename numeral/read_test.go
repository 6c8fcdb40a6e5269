package numeral_test

import (
	"fmt"
	"testing"

	"bulla/api"
	"bulla/metro"
	"bulla/numeral"
)

// P2.4
func TestRead(t *testing.T) {
	for _, x := range []struct {
		ladder, s string
		n         int
		e         api.Errno
	}{
		{"count", "3(n14) 2(n01)", 32, api.OK}, {"grain", "3(n14) 2(n01)", 100, api.OK}, {"area", "3(n14) 2(n01)", 56, api.OK}, {"count", "1(n45) 1(n48)", 4200, api.OK}, {"count", "99(n01)", 99, api.OK}, {"count", "12(n14) 99(n01)", 219, api.OK}, {"count", "1(n50) 1(n45) 1(n48) 1(n34) 1(n14) 1(n01)", 40271, api.OK},
		{"grain", "2(n14) la2 1(n01)", 55, api.OK}, {"count", "2(n14) la2 9(n01)", 11, api.OK}, {"count", "1(n34) 2(n14) la2 9(n01)", 71, api.OK}, {"count", "1(n34) la2 1(n14) 2(n01)", 48, api.OK}, {"count", "1(n34) la2 59(n01)", 1, api.OK}, {"count", "1(n34) la2 4(n14) 19(n01)", 1, api.OK},
		{"time", "3(n14) 2(n01)", 0, api.ErrUnit}, {"count", "1(n14) 1(x) 1(n34)", 0, api.ErrUnit}, {"count", "1(n01) 1(x)", 0, api.ErrUnit}, {"grain", "1(n45) 1(n22)", 0, api.ErrUnit},
		{"count", "1(n01) 1(n14)", 0, api.ErrUnordered}, {"grain", "1(n45) 1(n48)", 0, api.ErrUnordered}, {"count", "1(n34) 1(n01) 1(n14)", 0, api.ErrUnordered}, {"count", "1(n14) 1(n34) 1(x)", 0, api.ErrUnordered}, {"count", "1(n14) 1(n34) la2 1(x)", 0, api.ErrUnordered},
		{"count", "1(n34) la2 1(x)", 0, api.ErrUnit}, {"count", "1(n34) la2 1(n01) 1(n14)", 0, api.ErrUnordered}, {"count", "1(n34) la2 1(n01) 1(n14) 1(x)", 0, api.ErrUnordered}, {"count", "1(n34) la2 1(n01) 1(x) 1(n14)", 0, api.ErrUnit}, {"count", "1(n14) la2 1(n34) 1(x)", 0, api.ErrUnit}, {"count", "1(n14) la2 1(n34) 1(n48)", 0, api.ErrUnordered},
		{"count", "2(n14) la2 1(n14)", 0, api.ErrLess}, {"count", "2(n14) la2 10(n01)", 0, api.ErrLess}, {"count", "2(n14) la2 1(n34)", 0, api.ErrLess}, {"count", "5(n14) la2 11(n01)", 0, api.ErrLess}, {"count", "1(n34) 1(n01) la2 1(n01)", 0, api.ErrLess}, {"count", "1(n34) la2 60(n01)", 0, api.ErrLess}, {"count", "1(n34) la2 4(n14) 20(n01)", 0, api.ErrLess},
		{"count", "3+(n14)", 0, api.ErrDamage}, {"count", "[...]", 0, api.ErrDamage}, {"count", "1(n01) [...] 1(n14)", 0, api.ErrDamage}, {"count", "1+(x)", 0, api.ErrDamage},
	} {
		n, e := numeral.Read(standard(t, x.ladder), parsed(t, x.s))
		expect(t, fmt.Sprintf("Read(%s, %q)", x.ladder, x.s), n, e, x.n, x.e)
	}
}

// P2.4: sums at the limit.
func TestReadBig(t *testing.T) {
	for _, x := range []struct {
		l api.Ladder
		s string
		n int
		e api.Errno
	}{
		{deep(), "1(i)", 1 << 40, api.OK}, {deep(), "31(h) 31(g) 31(f) 31(e) 31(d) 31(c) 31(b) 32(a)", 1 << 40, api.OK}, {deep(), "1(i) la2 1(a)", 1<<40 - 1, api.OK}, {deep(), "32(h) la2 31(g) 31(a)", 1<<40 - 31<<30 - 31, api.OK}, {steep(), "23(g) 33(f)", 23*60*60*60*60*60*60 + 33*60*60*60*60*60, api.OK},
		{deep(), "1(i) 1(a)", 0, api.ErrBig}, {deep(), "2(i)", 0, api.ErrBig}, {deep(), "99(i) 99(h) 99(g)", 0, api.ErrBig}, {deep(), "31(h) 31(g) 31(f) 31(e) 31(d) 31(c) 31(b) 33(a)", 0, api.ErrBig}, {steep(), "24(g)", 0, api.ErrBig},
		{deep(), "1(i) 1(b) la2 1(a)", 0, api.ErrBig}, {deep(), "1(i) 1(b) la2 1(x)", 0, api.ErrBig}, {deep(), "2(i) la2 1(a) 1(b)", 0, api.ErrBig}, {deep(), "2(i) la2 99(i)", 0, api.ErrBig}, {deep(), "2(i) 1(x)", 0, api.ErrUnit}, {deep(), "1(a) 2(i)", 0, api.ErrUnordered},
		{deep(), "1(i) la2 1(i)", 0, api.ErrLess}, {deep(), "1(i) la2 2(i)", 0, api.ErrLess}, {deep(), "1(i) la2 99(i) 99(h)", 0, api.ErrLess}, {deep(), "1(a) la2 99(i) 99(a)", 0, api.ErrLess}, {deep(), "1(i) la2 99(i) 1(x)", 0, api.ErrUnit}, {deep(), "1(i) la2 2(h) 99(i)", 0, api.ErrUnordered},
	} {
		n, e := numeral.Read(x.l, parsed(t, x.s))
		expect(t, fmt.Sprintf("Read(%s, %q)", x.l.Name, x.s), n, e, x.n, x.e)
	}
}

// P2.4: the errors of the ladder, and of the numeral, come first.
func TestReadInvalid(t *testing.T) {
	count := standard(t, "count")
	for _, x := range append(invalidNumerals(), firstErrors()...) {
		n, e := numeral.Read(count, x.n)
		expect(t, fmt.Sprintf("Read(count, %v)", x.n), n, e, 0, x.e)
		readings, e := numeral.Readings([]api.Ladder{count}, x.n)
		expectList(t, fmt.Sprintf("Readings(count, %v)", x.n), readings, e, nil, x.e)
		readings, e = numeral.Readings(nil, x.n)
		expectList(t, fmt.Sprintf("Readings(no ladders, %v)", x.n), readings, e, nil, x.e)
	}
	for _, l := range invalidLadders() {
		for _, x := range []api.Numeral{{}, plus(g(1, "a")), plus(gap()), plus(g(1, "x"))} {
			n, e := numeral.Read(l, x)
			expect(t, fmt.Sprintf("Read(%v, %v)", l, x), n, e, 0, api.ErrLadder)
			readings, e := numeral.Readings([]api.Ladder{count, l}, x)
			expectList(t, fmt.Sprintf("Readings(count and %v, %v)", l, x), readings, e, nil, api.ErrLadder)
		}
	}
}

// P2.4, P2.11: the value of a numeral is the sum of Plus minus the sum of Less.
func TestReadSome(t *testing.T) {
	random := newRandom()
	for _, l := range someLadders() {
		for range 300 {
			x, value := someNumeral(random, l)
			n, e := numeral.Read(l, x)
			expect(t, fmt.Sprintf("Read(%s, %v)", l.Name, x), n, e, value, api.OK)
			if n < 1 || n > api.MaxNum {
				t.Errorf("Read(%s, %v): %d", l.Name, x, n)
			}
		}
	}
}

// P2.4
func TestReadings(t *testing.T) {
	many := make([]api.Ladder, 33)
	for i := range many {
		many[i] = ladder("same", 1, 2+i%2)
	}
	same := func(values ...int) (l []api.Reading) {
		for _, n := range values {
			l = append(l, api.Reading{Ladder: "same", N: n})
		}
		return l
	}
	var alternate []int
	for i := range 32 {
		alternate = append(alternate, 2+i%2)
	}
	for _, x := range []struct {
		l    []api.Ladder
		s    string
		want []api.Reading
		e    api.Errno
	}{
		{metro.Standard(), "3(n14) 2(n01)", []api.Reading{{Ladder: "count", N: 32}, {Ladder: "bisex", N: 32}, {Ladder: "grain", N: 100}, {Ladder: "area", N: 56}}, api.OK}, {metro.Standard(), "1(n45) 1(n48)", []api.Reading{{Ladder: "count", N: 4200}}, api.OK}, {metro.Standard(), "1(gin) la2 1(sze)", []api.Reading{{Ladder: "weight", N: 179}}, api.OK},
		{metro.Standard(), "1(n14) la2 17(n01)", []api.Reading{{Ladder: "area", N: 1}}, api.OK}, {metro.Standard(), "1(x)", nil, api.OK}, {nil, "1(n01)", nil, api.OK}, {metro.Standard(), "[...]", nil, api.ErrDamage}, {nil, "1+(n01)", nil, api.ErrDamage},
		{many[:32], "1(b)", same(alternate...), api.OK}, {many[:1], "1(b) la2 1(a)", same(1), api.OK}, {many[:2], "1(b) la2 2(a)", same(1), api.OK}, {many[:2], "1(a) 1(b)", nil, api.OK}, {many, "1(b)", nil, api.ErrLimit}, {many, "[...]", nil, api.ErrLimit}, {make([]api.Ladder, 33), "1(a)", nil, api.ErrLimit}, {make([]api.Ladder, 32), "1(a)", nil, api.ErrLadder}, {append(many[:31:31], api.Ladder{}), "[...]", nil, api.ErrLadder}, {[]api.Ladder{deep(), steep()}, "99(i)", nil, api.OK},
	} {
		readings, e := numeral.Readings(x.l, parsed(t, x.s))
		expectList(t, fmt.Sprintf("Readings(%d ladders, %q)", len(x.l), x.s), readings, e, x.want, x.e)
	}
}
