package numeral_test

import (
	"fmt"
	"testing"

	"bulla/api"
	"bulla/metro"
	"bulla/numeral"
)

type writing struct {
	l           api.Ladder
	n           int
	long, short string
	e, shortE   api.Errno
}

func writings(t *testing.T) []writing {
	count, area, binary, two := standard(t, "count"), standard(t, "area"), ladder("binary", 1, 2, 2, 2, 2), ladder("two", 1, 60)
	return []writing{
		{l: count, n: 1, long: "1(n01)", short: "1(n01)"}, {l: count, n: 10, long: "1(n14)", short: "1(n14)"}, {l: count, n: 11, long: "1(n14) 1(n01)", short: "1(n14) 1(n01)"}, {l: count, n: 13, long: "1(n14) 3(n01)", short: "1(n14) 3(n01)"}, {l: count, n: 18, long: "1(n14) 8(n01)", short: "2(n14) la2 2(n01)"}, {l: count, n: 19, long: "1(n14) 9(n01)", short: "2(n14) la2 1(n01)"}, {l: count, n: 59, long: "5(n14) 9(n01)", short: "1(n34) la2 1(n01)"}, {l: count, n: 3599, long: "5(n48) 9(n34) 5(n14) 9(n01)", short: "1(n45) la2 1(n01)"},
		{l: count, n: 9, long: "9(n01)", short: "1(n14) la2 1(n01)"}, {l: count, n: 7, long: "7(n01)", short: "1(n14) la2 3(n01)"}, {l: count, n: 6, long: "6(n01)", short: "6(n01)"}, {l: count, n: 5, long: "5(n01)", short: "5(n01)"}, {l: count, n: 31, long: "3(n14) 1(n01)", short: "3(n14) 1(n01)"}, {l: count, n: 600, long: "1(n48)", short: "1(n48)"}, {l: count, n: 599, long: "9(n34) 5(n14) 9(n01)", short: "1(n48) la2 1(n01)"}, {l: count, n: 588, long: "9(n34) 4(n14) 8(n01)", short: "1(n48) la2 1(n14) 2(n01)"}, {l: count, n: 109, long: "1(n34) 4(n14) 9(n01)", short: "2(n34) la2 1(n14) 1(n01)"}, {l: count, n: 79, long: "1(n34) 1(n14) 9(n01)", short: "1(n34) 2(n14) la2 1(n01)"},
		{l: binary, n: 3, long: "1(b) 1(a)", short: "1(b) 1(a)"}, {l: binary, n: 7, long: "1(c) 1(b) 1(a)", short: "1(c) 1(b) 1(a)"}, {l: binary, n: 15, long: "1(d) 1(c) 1(b) 1(a)", short: "1(e) la2 1(a)"},
		{l: area, n: 5, long: "5(n01)", short: "1(n22) la2 1(n01)"}, {l: area, n: 17, long: "2(n22) 5(n01)", short: "1(n14) la2 1(n01)"}, {l: area, n: 13, long: "2(n22) 1(n01)", short: "2(n22) 1(n01)"}, {l: area, n: 16, long: "2(n22) 4(n01)", short: "1(n14) la2 2(n01)"},
		{l: two, n: 98*60 + 59, long: "98(b) 59(a)", short: "99(b) la2 1(a)"}, {l: two, n: 98 * 60, long: "98(b)", short: "98(b)"}, {l: two, n: 99 * 60, long: "99(b)", shortE: api.ErrCount}, {l: two, n: 99*60 + 59, long: "99(b) 59(a)", shortE: api.ErrCount}, {l: two, n: 100 * 60, e: api.ErrCount, shortE: api.ErrCount}, {l: two, n: 1 << 40, e: api.ErrCount, shortE: api.ErrCount},
		{l: ladder("one", 1), n: 98, long: "98(a)", short: "98(a)"}, {l: ladder("one", 1), n: 99, long: "99(a)", shortE: api.ErrCount}, {l: ladder("one", 1), n: 100, e: api.ErrCount, shortE: api.ErrCount},
		{l: count, n: 0, e: api.ErrRange, shortE: api.ErrRange}, {l: count, n: -1, e: api.ErrRange, shortE: api.ErrRange}, {l: count, n: leastInt, e: api.ErrRange, shortE: api.ErrRange}, {l: deep(), n: 1<<40 + 1, e: api.ErrRange, shortE: api.ErrRange}, {l: deep(), n: mostInt, e: api.ErrRange, shortE: api.ErrRange},
		{l: deep(), n: 1 << 40, long: "1(i)", short: "1(i)"}, {l: deep(), n: 1<<40 - 1, long: "31(h) 31(g) 31(f) 31(e) 31(d) 31(c) 31(b) 31(a)", short: "1(i) la2 1(a)"},
	}
}

// P2.5
func TestWrite(t *testing.T) {
	for _, x := range writings(t) {
		n, e := numeral.Write(x.l, x.n)
		expectNumeral(t, fmt.Sprintf("Write(%s, %d)", x.l.Name, x.n), n, e, x.long, x.e)
	}
}

// P2.5
func TestShort(t *testing.T) {
	for _, x := range writings(t) {
		n, e := numeral.Short(x.l, x.n)
		expectNumeral(t, fmt.Sprintf("Short(%s, %d)", x.l.Name, x.n), n, e, x.short, x.shortE)
	}
}

// P2.5: a sum of Plus above the limit cannot be read, so that nothing is rounded up to it. (Rounding up to 59(e), say, would save many marks.)
func TestShortAtLimit(t *testing.T) {
	for _, x := range []struct {
		n    int
		want string
	}{
		{1 << 40, "23(g) 33(f) 58(e) 51(d) 36(c) 36(b) 16(a)"}, {1<<40 - 2456, "23(g) 33(f) 58(e) 51(d) 36(c) la2 4(b) 40(a)"}, {23*60*60*60*60*60*60 + 32*60*60*60*60*60 + 1, "23(g) 32(f) 1(a)"}, {23*60*60*60*60*60*60 + 33*60*60*60*60*60 - 1, "23(g) 33(f) la2 1(a)"},
	} {
		n, e := numeral.Short(steep(), x.n)
		expectNumeral(t, fmt.Sprintf("Short(steep, %d)", x.n), n, e, x.want, api.OK)
	}
}

// P2.5, P2.6: an invalid ladder comes before all other errors.
func TestWriteInvalidLadders(t *testing.T) {
	for _, l := range invalidLadders() {
		for _, x := range []int{1, 0, -1, leastInt, mostInt, 1 << 40} {
			n, e := numeral.Write(l, x)
			expectNumeral(t, fmt.Sprintf("Write(%v, %d)", l, x), n, e, "", api.ErrLadder)
			n, e = numeral.Short(l, x)
			expectNumeral(t, fmt.Sprintf("Short(%v, %d)", l, x), n, e, "", api.ErrLadder)
		}
		for _, x := range []api.Numeral{{}, plus(g(1, "a")), plus(gap())} {
			n, e := numeral.Canonical(l, x)
			expectNumeral(t, fmt.Sprintf("Canonical(%v, %v)", l, x), n, e, "", api.ErrLadder)
		}
	}
}

// P2.5
func TestCanonical(t *testing.T) {
	for _, x := range []struct {
		l       api.Ladder
		s, want string
		e       api.Errno
	}{
		{standard(t, "count"), "2(n14) la2 1(n01)", "1(n14) 9(n01)", api.OK}, {standard(t, "grain"), "2(n14) la2 1(n01)", "1(n14) 5(n01)", api.OK}, {standard(t, "count"), "99(n01)", "1(n34) 3(n14) 9(n01)", api.OK}, {standard(t, "count"), "3(n14) 2(n01)", "3(n14) 2(n01)", api.OK}, {standard(t, "count"), "1(n34) la2 5(n14) 9(n01)", "1(n01)", api.OK},
		{standard(t, "count"), "1(n01) 1(n14)", "", api.ErrUnordered}, {standard(t, "count"), "1(x)", "", api.ErrUnit}, {standard(t, "count"), "1(n14) la2 10(n01)", "", api.ErrLess}, {standard(t, "count"), "[...]", "", api.ErrDamage}, {deep(), "1(i) 1(a)", "", api.ErrBig}, {ladder("two", 1, 2), "99(b) 2(a)", "", api.ErrCount}, {ladder("two", 1, 2), "98(b) 3(a)", "99(b) 1(a)", api.OK},
	} {
		n, e := numeral.Canonical(x.l, parsed(t, x.s))
		expectNumeral(t, fmt.Sprintf("Canonical(%s, %q)", x.l.Name, x.s), n, e, x.want, x.e)
	}
	for _, x := range append(invalidNumerals(), firstErrors()...) {
		n, e := numeral.Canonical(deep(), x.n)
		expectNumeral(t, fmt.Sprintf("Canonical(deep, %v)", x.n), n, e, "", x.e)
	}
}

// P2.5, P2.10, P2.11: what is written is canonical, is read as its number, and has the fewest marks of those without Less.
func TestWriteSome(t *testing.T) {
	random := newRandom()
	for _, l := range someLadders() {
		for range 300 {
			n := someNumber(random)
			groups, ok := canonicalOf(l, n)
			x, e := numeral.Write(l, n)
			if !ok {
				expectNumeral(t, fmt.Sprintf("Write(%s, %d)", l.Name, n), x, e, "", api.ErrCount)
				continue
			}
			if !equal(x, plus(groups...)) || e != api.OK {
				t.Errorf("Write(%s, %d): %v, error %d; want %v", l.Name, n, x, e, groups)
			}
			value, e := numeral.Read(l, x)
			expect(t, fmt.Sprintf("Read(%s, %v)", l.Name, x), value, e, n, api.OK)
		}
		for range 300 {
			x, n := someNumeral(random, l)
			groups, ok := canonicalOf(l, n)
			c, e := numeral.Canonical(l, x)
			if ok != (e == api.OK) || ok && !equal(c, plus(groups...)) || !ok && e != api.ErrCount {
				t.Errorf("Canonical(%s, %v): %v, error %d; want %v", l.Name, x, c, e, groups)
			}
			if len(x.Less) == 0 && ok && marksOf(c) > marksOf(x) {
				t.Errorf("%v has fewer marks than the canonical numeral %v", x, c)
			}
		}
	}
}

// rank orders the numerals of a number: fewest marks, then without Less, then the smallest sum of Plus.
func rank(l api.Ladder, n api.Numeral) [3]int {
	return [3]int{marksOf(n), min(len(n.Less), 1), totalOf(l, n.Plus)}
}

func before(a, b [3]int) bool {
	for i := range a {
		if a[i] != b[i] {
			return a[i] < b[i]
		}
	}
	return false
}

// allGroups returns all lists of groups, also the empty one, with a sum up to most.
func allGroups(units []api.Unit, l api.Ladder, most int) [][]api.Group {
	if len(units) == 0 {
		return [][]api.Group{nil}
	}
	last := units[len(units)-1].Sign
	var all [][]api.Group
	for count := 0; count <= 99 && count*valueOf(l, last) <= most; count++ {
		for _, rest := range allGroups(units[:len(units)-1], l, most-count*valueOf(l, last)) {
			if count > 0 {
				rest = append([]api.Group{g(count, last)}, rest...)
			}
			all = append(all, rest)
		}
	}
	return all
}

// P2.5, P2.11: Short returns the best of all numerals that are read as its number, of which there is exactly one.
func TestShortIsShortest(t *testing.T) {
	for _, l := range []api.Ladder{ladder("a", 1, 3, 2), ladder("b", 1, 2, 2, 2), ladder("c", 1, 5, 4), ladder("d", 1, 7), ladder("e", 1, 4, 3), ladder("f", 1, 2, 3, 2), ladder("g", 1)} {
		most := 26
		best, ties := map[int]api.Numeral{}, map[int]int{}
		for _, x := range allGroups(l.Units, l, most+valueOf(l, l.Units[len(l.Units)-1].Sign)) {
			if len(x) == 0 {
				continue
			}
			for _, y := range allGroups(l.Units, l, valueOf(l, x[len(x)-1].Sign)-1) {
				n := lessened(plus(x...), y...)
				value := totalOf(l, x) - totalOf(l, y)
				if old, ok := best[value]; !ok || before(rank(l, n), rank(l, old)) {
					best[value], ties[value] = n, 1
				} else if rank(l, n) == rank(l, old) {
					ties[value]++
				}
			}
		}
		for n := 1; n <= most; n++ {
			x, e := numeral.Short(l, n)
			if !equal(x, best[n]) || e != api.OK || ties[n] != 1 {
				t.Errorf("Short(%s, %d): %v, error %d; want %v, which is one of %d", l.Name, n, x, e, best[n], ties[n])
			}
		}
	}
}

// P2.11: no numeral that is read as a number has fewer marks than that of Short.
func TestShortSome(t *testing.T) {
	random := newRandom()
	for _, l := range append(someLadders(), metro.Standard()...) {
		for range 300 {
			x, n := someNumeral(random, l)
			short, e := numeral.Short(l, n)
			if counts := countsOf(l, n); counts[len(counts)-1] > 98 {
				expectNumeral(t, fmt.Sprintf("Short(%s, %d)", l.Name, n), short, e, "", api.ErrCount)
				continue
			}
			value, f := numeral.Read(l, short)
			if e != api.OK || f != api.OK || value != n || before(rank(l, x), rank(l, short)) {
				t.Errorf("Short(%s, %d): %v, error %d, which is read as %d, error %d; also %v is read so", l.Name, n, short, e, value, f, x)
			}
		}
	}
}
