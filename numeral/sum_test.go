package numeral_test

import (
	"fmt"
	"slices"
	"testing"

	"bulla/api"
	"bulla/metro"
	"bulla/numeral"
)

func expectSum(t *testing.T, l api.Ladder, x []api.Numeral, want string, carries []int, wantError api.Errno) {
	t.Helper()
	s, c, e := numeral.Sum(l, x)
	call := fmt.Sprintf("Sum(%s, %d numerals)", l.Name, len(x))
	if len(x) < 5 {
		call = fmt.Sprintf("Sum(%s, %v)", l.Name, x)
	}
	expectNumeral(t, call, s, e, want, wantError)
	expectList(t, call+", the carries", c, e, carries, wantError)
}

// P2.6
func TestSum(t *testing.T) {
	grain, two := standard(t, "grain"), ladder("two", 1, 60)
	for _, x := range []struct {
		l       api.Ladder
		s       []string
		want    string
		carries []int
		e       api.Errno
	}{
		{grain, []string{"1(n14) 5(n01)", "3(n01) 4(n39)"}, "2(n14) 2(n01) 4(n39)", []int{0, 1, 0, 0, 0}, api.OK}, {grain, []string{"7(n01)"}, "1(n14) 1(n01)", []int{0, 0, 0, 0, 0}, api.OK}, // counts are canonical before they are added up
		{grain, []string{"2(n14) la2 1(n01)", "1(n01)"}, "2(n14)", []int{0, 1, 0, 0, 0}, api.OK}, {grain, []string{"4(n39)", "4(n39)", "5(n01)"}, "1(n14) 3(n39)", []int{1, 1, 0, 0, 0}, api.OK}, {two, []string{"50(a)", "50(a)", "50(a)"}, "2(b) 30(a)", []int{2}, api.OK}, {two, []string{"98(b) 59(a)", "1(a)"}, "99(b)", []int{1}, api.OK}, {ladder("one", 1), []string{"50(a)", "49(a)"}, "99(a)", nil, api.OK},
		{two, []string{"99(b) 59(a)", "1(a)"}, "", nil, api.ErrCount}, {two, []string{"99(b) 60(a)"}, "", nil, api.ErrCount}, {ladder("one", 1), []string{"50(a)", "50(a)"}, "", nil, api.ErrCount}, {deep(), []string{"1(i)", "1(a)"}, "", nil, api.ErrBig}, {deep(), []string{"1(i) la2 1(a)", "1(a)"}, "1(i)", []int{1, 1, 1, 1, 1, 1, 1, 1}, api.OK}, {deep(), []string{"31(h)", "31(h)"}, "", nil, api.ErrBig}, {deep(), []string{"1(i)", "1(i)"}, "", nil, api.ErrBig}, {steep(), []string{"12(g)", "12(g)"}, "", nil, api.ErrBig},
		{grain, nil, "", nil, api.ErrRange}, {grain, []string{"1(n14)", "1(n50)"}, "", nil, api.ErrUnit}, {grain, []string{"1(n01) 1(n14)", "1(n50)"}, "", nil, api.ErrUnordered}, {grain, []string{"1(n14)", "1(n39) 1(n01)", "1(n50)"}, "", nil, api.ErrUnordered}, {grain, []string{"1(n14)", "3+(n14)"}, "", nil, api.ErrDamage}, {grain, []string{"1(n14)", "1(n14) la2 6(n01)"}, "", nil, api.ErrLess}, {deep(), []string{"1(i)", "1(i)", "1(x)"}, "", nil, api.ErrUnit}, {deep(), []string{"1(i)", "1(i) 1(a)", "1(x)"}, "", nil, api.ErrBig},
	} {
		var l []api.Numeral
		for _, s := range x.s {
			l = append(l, parsed(t, s))
		}
		expectSum(t, x.l, l, x.want, x.carries, x.e)
	}
}

// P2.6: how many numerals, and which errors come first.
func TestSumLimits(t *testing.T) {
	mark := slices.Repeat([]api.Numeral{plus(g(1, "n01"))}, 257)
	count := standard(t, "count")
	expectSum(t, count, mark[:256], "4(n34) 1(n14) 6(n01)", []int{25, 4, 0, 0, 0}, api.OK)
	expectSum(t, count, mark, "", nil, api.ErrLimit)
	expectSum(t, count, make([]api.Numeral, 257), "", nil, api.ErrLimit)
	expectSum(t, count, make([]api.Numeral, 256), "", nil, api.ErrForm)
	expectSum(t, deep(), slices.Repeat([]api.Numeral{plus(g(1, "i"))}, 256), "", nil, api.ErrBig)
	for _, l := range invalidLadders() {
		expectSum(t, l, nil, "", nil, api.ErrLadder)
		expectSum(t, l, make([]api.Numeral, 257), "", nil, api.ErrLadder)
		expectSum(t, l, mark[:2], "", nil, api.ErrLadder)
	}
	for _, x := range append(invalidNumerals(), firstErrors()...) {
		expectSum(t, count, []api.Numeral{mark[0], x.n, {}}, "", nil, x.e)
	}
}

// P2.6
func TestDiff(t *testing.T) {
	grain := standard(t, "grain")
	for _, x := range []struct {
		l          api.Ladder
		a, b, want string
		e          api.Errno
	}{
		{grain, "1(n45)", "1(n39)", "9(n14) 5(n01) 4(n39)", api.OK}, {grain, "2(n14) la2 1(n01)", "1(n14)", "5(n01)", api.OK}, {grain, "2(n39)", "1(n39)", "1(n39)", api.OK}, {grain, "6(n01)", "1(n14) la2 1(n39)", "1(n39)", api.OK}, {deep(), "1(i)", "1(a)", "31(h) 31(g) 31(f) 31(e) 31(d) 31(c) 31(b) 31(a)", api.OK},
		{grain, "1(n01)", "5(n39)", "", api.ErrRange}, {grain, "1(n01)", "6(n39)", "", api.ErrRange}, {grain, "1(n39)", "99(n34)", "", api.ErrRange},
		{grain, "1(x)", "1(n01) 1(n14)", "", api.ErrUnit}, {grain, "1(n01) 1(n14)", "1(x)", "", api.ErrUnordered}, {grain, "1(n14)", "1(x)", "", api.ErrUnit}, {grain, "1(n39)", "[...]", "", api.ErrDamage}, {grain, "1+(n39)", "1(x)", "", api.ErrDamage}, {grain, "1(n39)", "1(n14) la2 6(n01)", "", api.ErrLess},
		{ladder("two", 1, 2), "99(b) 99(a)", "1(a)", "", api.ErrCount}, {ladder("two", 1, 2), "99(b) 3(a)", "2(a)", "99(b) 1(a)", api.OK},
	} {
		n, e := numeral.Diff(x.l, parsed(t, x.a), parsed(t, x.b))
		expectNumeral(t, fmt.Sprintf("Diff(%s, %q, %q)", x.l.Name, x.a, x.b), n, e, x.want, x.e)
	}
	for _, x := range append(invalidNumerals(), firstErrors()...) {
		n, e := numeral.Diff(grain, x.n, plus(g(1, "x")))
		expectNumeral(t, fmt.Sprintf("Diff(grain, %v, 1(x))", x.n), n, e, "", x.e)
		n, e = numeral.Diff(grain, plus(g(1, "n39")), x.n)
		expectNumeral(t, fmt.Sprintf("Diff(grain, 1(n39), %v)", x.n), n, e, "", x.e)
	}
	for _, l := range invalidLadders() {
		n, e := numeral.Diff(l, plus(g(2, "a")), plus(gap()))
		expectNumeral(t, fmt.Sprintf("Diff(%v)", l), n, e, "", api.ErrLadder)
	}
}

// P2.6
func TestTimes(t *testing.T) {
	grain := standard(t, "grain")
	for _, x := range []struct {
		l    api.Ladder
		a    string
		k    int
		want string
		e    api.Errno
	}{
		{grain, "1(n14) 1(n39)", 31, "1(n48) 2(n14) 1(n39)", api.OK}, {grain, "2(n14) la2 1(n01)", 2, "3(n14) 4(n01)", api.OK}, {grain, "7(n01)", 1, "1(n14) 1(n01)", api.OK}, {deep(), "1(a)", 1 << 40, "1(i)", api.OK}, {deep(), "1(i)", 1, "1(i)", api.OK}, {deep(), "3(a)", (1<<40 - 1) / 3, "31(h) 31(g) 31(f) 31(e) 31(d) 31(c) 31(b) 31(a)", api.OK},
		{grain, "1(n14)", 0, "", api.ErrRange}, {grain, "1(n14)", -1, "", api.ErrRange}, {grain, "1(n14)", leastInt, "", api.ErrRange}, {deep(), "1(i)", 2, "", api.ErrBig}, {deep(), "1(a)", 1<<40 + 1, "", api.ErrBig}, {deep(), "3(a)", (1<<40-1)/3 + 1, "", api.ErrBig}, {grain, "1(n14)", mostInt, "", api.ErrBig}, {grain, "1(n14)", 1 << 62, "", api.ErrBig}, {deep(), "32(b)", 1 << 58, "", api.ErrBig},
		{grain, "99(n34)", 2, "", api.ErrCount}, {grain, "33(n34)", 3, "99(n34)", api.OK}, {grain, "50(n34)", 2, "", api.ErrCount}, {grain, "1(x)", 0, "", api.ErrUnit}, {grain, "1(n01) 1(n14)", 1 << 62, "", api.ErrUnordered}, {grain, "[...]", 0, "", api.ErrDamage}, {grain, "1(n14) la2 6(n01)", -1, "", api.ErrLess},
	} {
		n, e := numeral.Times(x.l, parsed(t, x.a), x.k)
		expectNumeral(t, fmt.Sprintf("Times(%s, %q, %d)", x.l.Name, x.a, x.k), n, e, x.want, x.e)
	}
	for _, x := range append(invalidNumerals(), firstErrors()...) {
		n, e := numeral.Times(grain, x.n, 0)
		expectNumeral(t, fmt.Sprintf("Times(grain, %v, 0)", x.n), n, e, "", x.e)
	}
	for _, l := range invalidLadders() {
		n, e := numeral.Times(l, plus(g(2, "a")), 0)
		expectNumeral(t, fmt.Sprintf("Times(%v)", l), n, e, "", api.ErrLadder)
	}
}

// P2.12, P2.6: a sum is read as the sum of the values, in any order, and its carries are those of the canonical counts.
func TestSumSome(t *testing.T) {
	random, written := newRandom(), 0
	for _, l := range someLadders() {
		for range 100 {
			var x []api.Numeral
			total, sums := 0, make([]int, len(l.Units))
			for range 1 + random.IntN(5) {
				n, value := someNumeral(random, l)
				x, total = append(x, n), total+value
				for i, count := range countsOf(l, value) {
					sums[i] += count
				}
			}
			s, carries, e := numeral.Sum(l, x)
			random.Shuffle(len(x), func(i, j int) { x[i], x[j] = x[j], x[i] })
			other, otherCarries, f := numeral.Sum(l, x)
			if !equal(s, other) || !slices.Equal(carries, otherCarries) || e != f {
				t.Errorf("Sum(%s, %v): %v, error %d in this order; %v, error %d in another one", l.Name, x, other, f, s, e)
			}
			groups, ok := canonicalOf(l, total)
			if total > api.MaxNum || !ok {
				want := api.ErrBig
				if total <= api.MaxNum {
					want = api.ErrCount
				}
				expectNumeral(t, fmt.Sprintf("Sum(%s, %v)", l.Name, x), s, e, "", want)
				continue
			}
			written++
			_, wanted, _ := metro.Carry(l, sums)
			value, f := numeral.Read(l, s)
			if !equal(s, plus(groups...)) || !slices.Equal(carries, wanted) || value != total || e != api.OK || f != api.OK {
				t.Errorf("Sum(%s, %v): %v, which is read as %d, carries %v, error %d; want %v, carries %v", l.Name, x, s, value, carries, e, groups, wanted)
			}
		}
	}
	if written < 300 {
		t.Errorf("only %d sums could be written", written)
	}
}

// P2.12: what is subtracted and added again gives the same; what is added and subtracted, too; and so does what is multiplied and added.
func TestDiffLeadsBack(t *testing.T) {
	random, differences := newRandom(), 0
	for _, l := range someLadders() {
		for range 200 {
			a, valueA := someNumeral(random, l)
			b, valueB := someNumeral(random, l)
			d, e := numeral.Diff(l, a, b)
			if valueA <= valueB {
				expectNumeral(t, fmt.Sprintf("Diff(%s, %v, %v)", l.Name, a, b), d, e, "", api.ErrRange)
				continue
			}
			canonical, f := numeral.Canonical(l, a)
			if e != api.OK || f != api.OK {
				continue // no canonical numeral
			}
			differences++
			again, _, e := numeral.Sum(l, []api.Numeral{d, b})
			if value, f := numeral.Read(l, d); value != valueA-valueB || !equal(again, canonical) || e != api.OK || f != api.OK {
				t.Errorf("Diff(%s, %v, %v): %v; added again %v, error %d", l.Name, a, b, d, again, e)
			}
			twice, _, e := numeral.Sum(l, []api.Numeral{a, a})
			times, f := numeral.Times(l, a, 2)
			if !equal(twice, times) || e != f {
				t.Errorf("Times(%s, %v, 2): %v, error %d; Sum: %v, error %d", l.Name, a, times, f, twice, e)
			}
		}
	}
	if differences < 300 {
		t.Errorf("only %d differences could be written", differences)
	}
}
