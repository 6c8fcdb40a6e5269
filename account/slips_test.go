package account_test

import (
	"fmt"
	"slices"
	"testing"

	"bulla/account"
	"bulla/api"
	"bulla/metro"
)

// slipsTo returns the slips that lead to n, of all numbers of a list that may have been meant.
func slipsTo(t *testing.T, l api.Ladder, n int, meant []int) []api.Slip {
	t.Helper()
	slices.Sort(meant)
	var slips []api.Slip
	for _, m := range slices.Compact(meant) {
		if s, ok := slip(t, l, m, n); ok {
			slips = append(slips, s)
		}
	}
	return slips
}

// P5.7: the chapter's example, and the edges of the numbers.
func TestSlips(t *testing.T) {
	more, less, up, down := api.SlipMore, api.SlipLess, api.SlipUp, api.SlipDown
	count := metro.Standard()[0]
	lone, wide := ladder("lone", 1), ladder("wide", 1, 2, 60, 3, 59)
	far := ladder("far", 1, 32, 32, 32, 32, 32, 32, 32, 16, 2) // the last sign is worth MaxNum
	for _, x := range []struct {
		l    api.Ladder
		n    int
		want []api.Slip
	}{
		{count, 10, []api.Slip{{Kind: up, Sign: "n01", N: 1}, {Kind: less, Sign: "n01", N: 11}, {Kind: less, Sign: "n14", N: 20}, {Kind: down, Sign: "n34", N: 60}, {Kind: less, Sign: "n34", N: 70}, {Kind: less, Sign: "n48", N: 610}, {Kind: less, Sign: "n45", N: 3610}, {Kind: less, Sign: "n50", N: 36010}}},
		{lone, 1, []api.Slip{{Kind: less, Sign: "a", N: 2}}}, // 0 is no number that can be meant
		{lone, 2, []api.Slip{{Kind: more, Sign: "a", N: 1}, {Kind: less, Sign: "a", N: 3}}},
		{lone, api.MaxNum, []api.Slip{{Kind: more, Sign: "a", N: api.MaxNum - 1}}},
		{lone, api.MaxNum - 1, []api.Slip{{Kind: more, Sign: "a", N: api.MaxNum - 2}, {Kind: less, Sign: "a", N: api.MaxNum}}},
		{wide, 1, []api.Slip{{Kind: down, Sign: "b", N: 2}, {Kind: less, Sign: "b", N: 3}, {Kind: less, Sign: "c", N: 121}, {Kind: less, Sign: "d", N: 361}, {Kind: less, Sign: "e", N: 21241}}},
		// 59 marks of b are no marks of a, and 3 of them none of c
		{wide, 118, []api.Slip{{Kind: more, Sign: "b", N: 116}, {Kind: less, Sign: "a", N: 119}, {Kind: less, Sign: "c", N: 238}, {Kind: less, Sign: "d", N: 478}, {Kind: less, Sign: "e", N: 21358}}},
		{wide, 6, []api.Slip{{Kind: more, Sign: "b", N: 4}, {Kind: less, Sign: "a", N: 7}, {Kind: less, Sign: "b", N: 8}, {Kind: less, Sign: "c", N: 126}, {Kind: less, Sign: "d", N: 366}, {Kind: less, Sign: "e", N: 21246}}},
		{wide, 4, []api.Slip{{Kind: more, Sign: "b", N: 2}, {Kind: less, Sign: "a", N: 5}, {Kind: less, Sign: "b", N: 6}, {Kind: less, Sign: "c", N: 124}, {Kind: down, Sign: "c", N: 240}, {Kind: less, Sign: "d", N: 364}, {Kind: less, Sign: "e", N: 21244}}},
		{far, api.MaxNum, []api.Slip{{Kind: up, Sign: "i", N: api.MaxNum / 2}}},
		{far, api.MaxNum / 2, []api.Slip{{Kind: up, Sign: "h", N: 1 << 35}, {Kind: less, Sign: "a", N: 1<<39 + 1}, {Kind: less, Sign: "b", N: 1<<39 + 1<<5}, {Kind: less, Sign: "c", N: 1<<39 + 1<<10}, {Kind: less, Sign: "d", N: 1<<39 + 1<<15}, {Kind: less, Sign: "e", N: 1<<39 + 1<<20}, {Kind: less, Sign: "f", N: 1<<39 + 1<<25}, {Kind: less, Sign: "g", N: 1<<39 + 1<<30}, {Kind: less, Sign: "h", N: 1<<39 + 1<<35}, {Kind: down, Sign: "j", N: api.MaxNum}}},
	} {
		got, e := account.Slips(x.l, x.n)
		expect(t, fmt.Sprintf("Slips(%s, %d)", x.l.Name, x.n), got, e, x.want, api.OK)
	}
}

// P5.7: invalid ladders and numbers.
func TestSlipErrors(t *testing.T) {
	for _, l := range []api.Ladder{{}, ladder("A", 1), ladder("a"), ladder("a", 2), ladder("a", 1, 1), ladder("a", 1, 61), ladder("a", 1, 60, 60, 60, 60, 60, 60, 60), {Name: "a", Units: []api.Unit{{Sign: "a", Factor: 1}, {Sign: "a", Factor: 2}}}} {
		for _, n := range []int{0, 1, mostInt} {
			got, e := account.Slips(l, n)
			expectZero(t, "Slips of an invalid ladder", got, e, api.ErrLadder)
		}
	}
	for _, l := range append(metro.Standard(), small()...) {
		for _, n := range []int{0, -1, api.MaxNum + 1, mostInt, leastInt} {
			got, e := account.Slips(l, n)
			expectZero(t, fmt.Sprint("Slips of ", n), got, e, api.ErrRange)
		}
	}
}

// P5.7: all slips to small numbers, found among all numbers.
func TestSlipsToSmallNumbers(t *testing.T) {
	for _, l := range []api.Ladder{ladder("lone", 1), ladder("twos", 1, 2, 2, 2), ladder("threes", 1, 3, 3), ladder("mixed", 1, 2, 5, 3), ladder("four", 1, 4, 2, 4)} {
		var meant []int
		for m := range 250 {
			meant = append(meant, 1+m)
		}
		for n := 1; n <= 120; n++ {
			got, e := account.Slips(l, n)
			expect(t, fmt.Sprintf("Slips(%s, %d)", l.Name, n), got, e, slipsTo(t, l, n, meant), api.OK)
		}
	}
}

// meantFor returns all numbers that differ from n as a slip may make numbers differ.
func meantFor(t *testing.T, l api.Ladder, n int) []int {
	t.Helper()
	var meant []int
	for i, u := range l.Units {
		value, e := metro.Value(l, u.Sign)
		expectError(t, "Value", e, api.OK)
		meant = append(meant, n-value, n+value)
		for _, v := range l.Units[i+1:] {
			greater, e := metro.Value(l, v.Sign)
			expectError(t, "Value", e, api.OK)
			for x := range 61 {
				meant = append(meant, n-x*(greater-value), n+x*(greater-value))
			}
		}
	}
	return meant
}

// P5.7, P5.14: slips to any number, on all ladders; and each of them the other way round.
func TestSlipsBothWays(t *testing.T) {
	random := newRandom()
	opposite := map[int]int{api.SlipMore: api.SlipLess, api.SlipLess: api.SlipMore, api.SlipUp: api.SlipDown, api.SlipDown: api.SlipUp}
	ladders := append(append(metro.Standard(), small()...), ladder("far", 1, 32, 32, 32, 32, 32, 32, 32, 16, 2))
	for _, l := range ladders {
		for range 60 {
			counts := make([]int, len(l.Units))
			for i := range counts {
				counts[i] = random.IntN(2) * random.IntN(4)
			}
			n, _ := metro.Total(l, counts)
			n = pick(random, n, n, n, random.IntN(api.MaxNum), api.MaxNum-n%1000)
			n = min(max(n, 1), api.MaxNum)
			slips, e := account.Slips(l, n)
			expect(t, fmt.Sprintf("Slips(%s, %d)", l.Name, n), slips, e, slipsTo(t, l, n, meantFor(t, l, n)), api.OK)
			for _, s := range slips {
				back, e := account.Slips(l, s.N)
				i := slices.IndexFunc(back, func(x api.Slip) bool { return x.N == n })
				if e != api.OK || i < 0 || back[i].Kind != opposite[s.Kind] {
					t.Fatalf("%s: a slip from %d to %d, but back there are %v", l.Name, s.N, n, back)
				}
				if !signsFit(l, s, back[i]) {
					t.Errorf("%s: a slip from %d to %d with %s, back with %s", l.Name, s.N, n, s.Sign, back[i].Sign)
				}
			}
		}
	}
}

// signsFit reports whether a slip and the opposite one have the same sign, or those of two neighbouring units.
func signsFit(l api.Ladder, a, b api.Slip) bool {
	at := func(sign string) int {
		return slices.IndexFunc(l.Units, func(u api.Unit) bool { return u.Sign == sign })
	}
	switch a.Kind {
	case api.SlipUp:
		return at(b.Sign) == at(a.Sign)+1
	case api.SlipDown:
		return at(b.Sign) == at(a.Sign)-1
	}
	return a.Sign == b.Sign
}
