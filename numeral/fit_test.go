package numeral_test

import (
	"fmt"
	"math/rand/v2"
	"slices"
	"testing"

	"bulla/api"
	"bulla/metro"
	"bulla/numeral"
)

// P2.7
func TestFits(t *testing.T) {
	for _, x := range []struct {
		l    api.Ladder
		s    string
		n    int
		want bool
	}{
		{standard(t, "count"), "1(n34) [...] 2(n01)", 72, true}, {standard(t, "count"), "1(n34) [...] 2(n01)", 62, true}, {standard(t, "count"), "1(n34) [...] 2(n01)", 73, false}, {standard(t, "count"), "1(n34) [...] 2(n01)", 132, false}, {standard(t, "count"), "1(n34) [...] 2(n01)", 12, false}, {standard(t, "count"), "1(n34) 2+(n01)", 72, false}, {standard(t, "count"), "1(n34) 2+(n01)", 69, true}, {standard(t, "count"), "1(n34) 2+(n01)", 61, false},
		{standard(t, "count"), "[...]", 1, true}, {standard(t, "count"), "[...]", 99*36000 + 35999, true}, {standard(t, "count"), "[...]", 100 * 36000, false}, {standard(t, "count"), "1+(n50)", 100 * 36000, false}, {standard(t, "count"), "1+(n50)", 99 * 36000, true}, {standard(t, "count"), "99+(n50)", 99 * 36000, true}, {standard(t, "count"), "1(n14) [...]", 10, true}, {standard(t, "count"), "[...] 1(n14) [...]", 10, true}, {standard(t, "count"), "[...] 1(n14) [...]", 611, true}, {standard(t, "count"), "[...] 1(n14) [...]", 621, false}, {standard(t, "count"), "3+(n14) [...]", 20, false},
		{standard(t, "count"), "[...] 1(n14)", 610, true}, {standard(t, "count"), "[...] 1(n14)", 611, false}, {standard(t, "count"), "1(n14) [...]", 611, false}, {standard(t, "count"), "1(n14) 9+(n01)", 19, true}, {standard(t, "count"), "1(n14) 10+(n01)", 20, false}, {standard(t, "count"), "12(n01) [...]", 12, false}, {standard(t, "count"), "6(n14) [...]", 60, false}, {standard(t, "count"), "[...] 5(n01) 1+(n14)", 15, false}, {standard(t, "count"), "[...] 5(n01) 1+(n14)", 65, false}, {standard(t, "count"), "1(x) [...]", 10, false}, {standard(t, "count"), "[...] 1+(x)", 1, false}, {standard(t, "count"), "[...] 1(n14) 1(x)", 10, false},
		{standard(t, "count"), "2(n14) la2 1(n01)", 19, true}, {standard(t, "count"), "2(n14) la2 1(n01)", 21, false}, {standard(t, "count"), "1(n14) 9(n01)", 19, true}, {standard(t, "count"), "12(n01)", 12, true}, {standard(t, "count"), "12(n01)", 13, false}, {standard(t, "grain"), "12(n01)", 60, true}, {standard(t, "grain"), "12(n01)", 12, false}, {standard(t, "count"), "1(n01) 1(n14)", 11, false}, {standard(t, "count"), "1(x)", 1, false}, {standard(t, "count"), "1(n14) la2 10(n01)", 10, false},
		{ladder("two", 1, 2), "99(b) 99(a)", 297, true}, {ladder("two", 1, 2), "99(b) 99(a)", 299, false}, {ladder("two", 1, 2), "99+(b) [...]", 199, true}, {ladder("two", 1, 2), "[...] 1(a)", 1 << 40, false}, {deep(), "1(i)", 1 << 40, true}, {deep(), "1+(i) [...]", 1 << 40, true}, {deep(), "[...]", 1 << 40, true}, {deep(), "1(i) 1(a)", 1 << 40, false}, {ladder("one", 1), "1+(a)", 99, true}, {ladder("one", 1), "1+(a)", 100, false},
	} {
		is, e := numeral.Fits(x.l, parsed(t, x.s), x.n)
		expect(t, fmt.Sprintf("Fits(%s, %q, %d)", x.l.Name, x.s, x.n), is, e, x.want, api.OK)
	}
}

// P2.7, P2.8: which errors there are, and which one comes first.
func TestFitErrors(t *testing.T) {
	count, one := standard(t, "count"), plus(g(1, "n01"))
	expectErrors := func(l api.Ladder, x api.Numeral, n, limit int, want api.Errno) {
		t.Helper()
		found, e := numeral.Candidates(l, x, n, limit)
		expectList(t, fmt.Sprintf("Candidates(%v, %v, %d, %d)", l, x, n, limit), found, e, nil, want)
		if limit == 10 {
			is, e := numeral.Fits(l, x, n)
			expect(t, fmt.Sprintf("Fits(%v, %v, %d)", l, x, n), is, e, false, want)
		}
	}
	for _, x := range []api.Numeral{one, plus(gap()), plus(g(1, "x")), plus(g(1, "n01"), g(1, "n14"))} {
		for _, n := range []int{0, -1, leastInt, 1<<40 + 1, mostInt} {
			expectErrors(count, x, n, 10, api.ErrRange)
		}
		for _, limit := range []int{0, -1, leastInt, 4097, mostInt} {
			expectErrors(count, x, 10, limit, api.ErrRange)
		}
	}
	for _, x := range append(invalidNumerals(), firstErrors()...) {
		expectErrors(count, x.n, 10, 10, x.e)
		expectErrors(count, x.n, 0, 10, x.e)
		expectErrors(count, x.n, 10, 0, x.e)
	}
	for _, l := range invalidLadders() {
		for _, x := range []api.Numeral{{}, plus(gap()), plus(g(1, "a"))} {
			expectErrors(l, x, 10, 10, api.ErrLadder)
			expectErrors(l, x, 0, 10, api.ErrLadder)
			expectErrors(l, x, 10, 4097, api.ErrLadder)
		}
	}
}

// upTo returns the numbers from 1 to n.
func upTo(n int) []int {
	l := make([]int, n)
	for i := range l {
		l[i] = i + 1
	}
	return l
}

// P2.8
func TestCandidates(t *testing.T) {
	count := standard(t, "count")
	for _, x := range []struct {
		l           api.Ladder
		s           string
		most, limit int
		want        []int
		e           api.Errno
	}{
		{count, "1(n34) [...] 2(n01)", 100, 10, []int{62, 72, 82, 92}, api.OK}, {count, "1(n34) [...] 2(n01)", 1 << 40, 6, []int{62, 72, 82, 92, 102, 112}, api.OK}, {count, "1(n34) [...] 2(n01)", 1 << 40, 5, nil, api.ErrLimit}, {count, "1(n34) [...] 2(n01)", 111, 5, []int{62, 72, 82, 92, 102}, api.OK}, {count, "1(n34) [...] 2(n01)", 112, 5, nil, api.ErrLimit}, {count, "1(n34) [...] 2(n01)", 62, 1, []int{62}, api.OK}, {count, "1(n34) [...] 2(n01)", 61, 1, nil, api.OK},
		{count, "4+(n14)", 100, 10, []int{40, 50}, api.OK}, {count, "4+(n14)", 100, 1, nil, api.ErrLimit}, {count, "4+(n14)", 100, 2, []int{40, 50}, api.OK}, {count, "4+(n14)", 49, 1, []int{40}, api.OK}, {count, "6+(n14)", 1 << 40, 1, nil, api.OK}, {count, "10+(n01) [...] 1(n14)", 1 << 40, 1, nil, api.OK}, {count, "98+(n50)", 1 << 40, 2, []int{98 * 36000, 99 * 36000}, api.OK}, {count, "98+(n50) 2+(n45)", 1 << 40, 8, []int{98*36000 + 7200, 98*36000 + 10800, 98*36000 + 14400, 98*36000 + 18000, 98*36000 + 21600, 98*36000 + 25200, 98*36000 + 28800, 98*36000 + 32400}, api.ErrLimit},
		{standard(t, "grain"), "[...]", 3, 2, nil, api.ErrLimit}, {standard(t, "grain"), "[...]", 3, 3, upTo(3), api.OK}, {count, "[...]", 4096, 4096, upTo(4096), api.OK}, {count, "[...]", 4097, 4096, nil, api.ErrLimit}, {count, "[...]", 1 << 40, 4096, nil, api.ErrLimit}, {ladder("one", 1), "[...]", 1 << 40, 99, upTo(99), api.OK}, {ladder("one", 1), "[...]", 1 << 40, 98, nil, api.ErrLimit}, {ladder("two", 1, 2), "[...]", 1 << 40, 199, upTo(199), api.OK}, {deep(), "31(h) 31(g) 31(f) 31(e) 31(d) 31(c) 31(b) 30+(a)", 1 << 40, 2, []int{1<<40 - 2, 1<<40 - 1}, api.OK},
		{count, "[...] 8+(n01)", 40, 10, []int{8, 9, 18, 19, 28, 29, 38, 39}, api.OK}, {count, "1+(n01) [...]", 1 << 40, 10, upTo(9), api.OK}, {count, "[...] 1(n50) 1(n14)", 1 << 40, 10, []int{36010}, api.OK}, {count, "[...] 1(n34) 1+(n14)", 200, 10, []int{70, 80, 90, 100, 110}, api.OK}, {count, "2+(n14) [...] 8(n01) [...]", 1 << 40, 10, []int{28, 38, 48, 58}, api.OK}, {deep(), "1+(i) [...]", 1 << 40, 1, []int{1 << 40}, api.OK},
		{count, "1(n14) 1(n01)", 100, 1, []int{11}, api.OK}, {count, "1(n14) 1(n01)", 11, 1, []int{11}, api.OK}, {count, "1(n14) 1(n01)", 10, 1, nil, api.OK}, {count, "2(n14) la2 1(n01)", 100, 1, []int{19}, api.OK}, {count, "12(n01)", 100, 1, []int{12}, api.OK}, {ladder("two", 1, 2), "99(b) 99(a)", 1 << 40, 1, []int{297}, api.OK},
		{count, "10+(n01)", 100, 10, nil, api.OK}, {count, "1(n01) [...] 1(n14)", 100, 10, nil, api.OK}, {count, "1(x) [...]", 100, 10, nil, api.OK}, {count, "1(x)", 100, 10, nil, api.OK}, {count, "1(n01) 1(n14)", 100, 10, nil, api.OK}, {count, "1(n14) la2 10(n01)", 100, 10, nil, api.OK}, {deep(), "2(i)", 1 << 40, 10, nil, api.OK},
	} {
		if x.e != api.OK {
			x.want = nil
		}
		found, e := numeral.Candidates(x.l, parsed(t, x.s), x.most, x.limit)
		expectList(t, fmt.Sprintf("Candidates(%s, %q, %d, %d)", x.l.Name, x.s, x.most, x.limit), found, e, x.want, x.e)
	}
}

// matches reports whether groups are obtained from those that are visible, by the definition.
func matches(visible, groups []api.Group) bool {
	switch {
	case len(visible) == 0:
		return len(groups) == 0
	case visible[0] == gap():
		return matches(visible[1:], groups) || len(groups) > 0 && matches(visible, groups[1:])
	case len(groups) == 0 || visible[0].Sign != groups[0].Sign || visible[0].Count > groups[0].Count || !visible[0].More && visible[0].Count < groups[0].Count:
		return false
	}
	return matches(visible[1:], groups[1:])
}

// fitting returns the numbers up to most that fit a damaged numeral, by the definition.
func fitting(l api.Ladder, x api.Numeral, most int) []int {
	var numbers []int
	for n := 1; n <= most; n++ {
		if groups, ok := canonicalOf(l, n); ok && matches(x.Plus, groups) {
			numbers = append(numbers, n)
		}
	}
	return numbers
}

// damagedFurther returns x with a group that becomes smaller and has More, or with some neighbouring groups that become a gap.
func damagedFurther(random *rand.Rand, x api.Numeral) api.Numeral {
	groups := slices.Clone(x.Plus)
	i := random.IntN(len(groups))
	if groups[i] != gap() && random.IntN(2) == 0 {
		groups[i] = more(1+random.IntN(groups[i].Count), groups[i].Sign)
		return plus(groups...)
	}
	end := i + 1 + random.IntN(len(groups)-i)
	for i > 0 && groups[i-1] == gap() { // no gap follows a gap
		i--
	}
	for end < len(groups) && groups[end] == gap() {
		end++
	}
	return plus(slices.Concat(groups[:i], []api.Group{gap()}, groups[end:])...)
}

// someDamaged returns a damaged numeral, mostly one that some number fits.
func someDamaged(random *rand.Rand, l api.Ladder) api.Numeral {
	groups, ok := canonicalOf(l, 1+random.IntN(1+valueOf(l, l.Units[len(l.Units)-1].Sign)))
	if !ok {
		groups = []api.Group{g(1, l.Units[0].Sign)}
	}
	if random.IntN(5) == 0 {
		random.Shuffle(len(groups), func(i, j int) { groups[i], groups[j] = groups[j], groups[i] })
	}
	if i := random.IntN(5 * len(groups)); i < len(groups) {
		groups[i].Count = 1 + random.IntN(99)
	}
	if i := random.IntN(len(groups) + 1); random.IntN(3) == 0 {
		groups = slices.Insert(groups, i, gap())
	}
	x := damagedFurther(random, plus(groups...))
	for random.IntN(2) == 0 {
		x = damagedFurther(random, x)
	}
	return x
}

// smallLadders have few numbers, so that all of them can be tried.
func smallLadders() []api.Ladder {
	return []api.Ladder{ladder("one", 1), ladder("two", 1, 2), ladder("six", 1, 3, 2), ladder("binary", 1, 2, 2, 2, 2), ladder("ten", 1, 5, 2, 3), metro.Standard()[3]}
}

// P2.7, P2.8, P2.13: candidates are exactly the numbers that fit, increasing.
func TestCandidatesFit(t *testing.T) {
	random, total := newRandom(), 0
	for _, l := range smallLadders() {
		for range 300 {
			x, most := someDamaged(random, l), 1+random.IntN(700)
			want := fitting(l, x, most)
			total += len(want)
			call := fmt.Sprintf("Candidates(%s, %v, %d)", l.Name, x, most)
			found, e := numeral.Candidates(l, x, most, 4096)
			expectList(t, call, found, e, want, api.OK)
			if len(want) > 1 {
				found, e = numeral.Candidates(l, x, most, len(want)-1)
				expectList(t, call+" with a smaller limit", found, e, nil, api.ErrLimit)
			}
			found, e = numeral.Candidates(l, x, most, max(1, len(want)))
			expectList(t, call+" with that limit", found, e, want, api.OK)
			for n := 1; n <= most; n++ {
				is, e := numeral.Fits(l, x, n)
				expect(t, fmt.Sprintf("Fits(%s, %v, %d)", l.Name, x, n), is, e, slices.Contains(want, n), api.OK)
			}
		}
	}
	if total < 10000 {
		t.Errorf("only %d candidates", total)
	}
}

// P2.7, P2.8: a numeral that is not damaged fits its value alone.
func TestCandidatesOfWhole(t *testing.T) {
	random := newRandom()
	for _, l := range someLadders() {
		for range 50 {
			x, value := someNumeral(random, l)
			for _, most := range []int{value, 1 << 40} {
				found, e := numeral.Candidates(l, x, most, 1)
				expectList(t, fmt.Sprintf("Candidates(%s, %v, %d)", l.Name, x, most), found, e, []int{value}, api.OK)
			}
			if value > 1 {
				found, e := numeral.Candidates(l, x, value-1, 1)
				expectList(t, fmt.Sprintf("Candidates(%s, %v, %d)", l.Name, x, value-1), found, e, nil, api.OK)
			}
			for _, n := range []int{value - 1, value, value + 1, 1} {
				if n >= 1 && n <= api.MaxNum {
					is, e := numeral.Fits(l, x, n)
					expect(t, fmt.Sprintf("Fits(%s, %v, %d)", l.Name, x, n), is, e, n == value, api.OK)
				}
			}
		}
	}
}

// P2.13: what is damaged further fits all that it fitted.
func TestDamagedFurther(t *testing.T) {
	random, tried := newRandom(), 0
	for _, l := range someLadders() {
		for range 100 {
			n := 1 + random.IntN(min(api.MaxNum, 99*valueOf(l, l.Units[len(l.Units)-1].Sign)))
			x, e := numeral.Write(l, n)
			if e != api.OK {
				t.Fatalf("Write(%s, %d): error %d", l.Name, n, e)
			}
			for range 6 {
				before, e := numeral.Candidates(l, x, api.MaxNum, 50)
				y := damagedFurther(random, x)
				for _, m := range append(before, n) {
					is, f := numeral.Fits(l, y, m)
					expect(t, fmt.Sprintf("Fits(%s, %v, %d), as it fits %v", l.Name, y, m, x), is, f, true, api.OK)
					tried++
				}
				if e == api.OK && !slices.Contains(before, n) {
					t.Errorf("Candidates(%s, %v): %v, without %d", l.Name, x, before, n)
				}
				x = y
			}
		}
	}
	if tried < 10000 {
		t.Errorf("only %d numbers were tried", tried)
	}
}
