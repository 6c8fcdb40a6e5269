package account_test

import (
	"fmt"
	"slices"
	"testing"

	"bulla/account"
	"bulla/api"
)

// P5.8: the chapter's example.
func TestFixes(t *testing.T) {
	k := book(t)
	p, v := samplePuzzle(t, k), sampleValues()
	for _, x := range []struct {
		f    []api.Fix
		cost int
		e    api.Errno
	}{
		{}, {f: []api.Fix{fix(7, 10, 9, api.SlipTotal)}, cost: 2}, {f: []api.Fix{fix(7, 10, 11, api.SlipLess)}, cost: 1}, {f: []api.Fix{fix(0, 60, 61, api.SlipTotal)}, e: api.ErrFix},
		{f: []api.Fix{fix(7, 10, 11, api.SlipTotal)}, e: api.ErrFix}, {f: []api.Fix{fix(7, 10, 9, api.SlipLess)}, e: api.ErrFix}, {f: []api.Fix{fix(7, 10, 1, api.SlipUp)}, cost: 1}, {f: []api.Fix{fix(7, 10, 60, api.SlipDown)}, cost: 1},
		{f: []api.Fix{fix(1, 3, 2, api.SlipMore), fix(5, 2, 3, api.SlipLess), fix(6, 90, 1, api.SlipTotal), fix(7, 10, api.MaxNum, api.SlipTotal)}, cost: 6},
		{f: []api.Fix{fix(5, 2, 3, api.SlipLess), fix(1, 3, 2, api.SlipMore)}, e: api.ErrFix}, {f: []api.Fix{fix(5, 2, 3, api.SlipLess), fix(5, 2, 3, api.SlipLess)}, e: api.ErrFix}, {f: []api.Fix{fix(5, 2, 3, api.SlipLess), fix(5, 3, 4, api.SlipLess)}, e: api.ErrFix},
		{f: []api.Fix{fix(5, 2, 3, api.SlipLess), {}}, e: api.ErrFix}, {f: []api.Fix{{}}, e: api.ErrFix}, {f: []api.Fix{fix(5, 2, 2, 0)}, e: api.ErrFix}, {f: []api.Fix{fix(7, 10, 10, api.SlipTotal)}, e: api.ErrFix},
		{f: []api.Fix{fix(5, 3, 2, api.SlipMore)}, e: api.ErrFix}, {f: []api.Fix{fix(7, 11, 10, api.SlipMore)}, e: api.ErrFix}, {f: []api.Fix{fix(0, 60, 61, 0)}, e: api.ErrFix}, {f: []api.Fix{fix(5, 2, 3, 0)}, e: api.ErrFix},
		{f: []api.Fix{fix(7, 10, 0, api.SlipTotal)}, e: api.ErrFix}, {f: []api.Fix{fix(7, 10, -9, api.SlipTotal)}, e: api.ErrFix}, {f: []api.Fix{fix(7, 10, api.MaxNum+1, api.SlipTotal)}, e: api.ErrFix}, {f: []api.Fix{fix(7, 10, mostInt, api.SlipTotal)}, e: api.ErrFix}, {f: []api.Fix{fix(7, 10, leastInt, api.SlipTotal)}, e: api.ErrFix},
		{f: []api.Fix{fix(-1, 2, 3, api.SlipLess)}, e: api.ErrFix}, {f: []api.Fix{fix(8, 10, 9, api.SlipTotal)}, e: api.ErrFix}, {f: []api.Fix{fix(mostInt, 2, 3, api.SlipLess)}, e: api.ErrFix}, {f: []api.Fix{fix(leastInt, 2, 3, api.SlipLess)}, e: api.ErrFix},
		{f: slices.Repeat([]api.Fix{fix(5, 2, 3, api.SlipLess)}, 1000), e: api.ErrFix},
	} {
		call := fmt.Sprintf("of %.200s", show(x.f))
		cost, e := account.Cost(k, p, v, x.f)
		expect(t, "Cost "+call, cost, e, x.cost, x.e)
		want := sampleValues()
		for _, f := range x.f {
			if x.e == api.OK {
				want[f.Cell] = f.To
			}
		}
		got, e := account.Apply(k, p, v, x.f)
		if x.e != api.OK {
			expectZero(t, "Apply "+call, got, e, x.e)
		} else {
			expect(t, "Apply "+call, got, e, want, api.OK)
		}
	}
	w, e := account.Apply(k, p, v, []api.Fix{fix(5, 2, 3, api.SlipLess)})
	expect(t, "Apply", w, e, []int{60, 3, 4, 7, 30, 3, 90, 10}, api.OK)
	wrong, e := account.Wrong(k, p, w)
	expect(t, "Wrong", wrong, e, nil, api.OK)
}

// P5.8: which kind each fix of each cell has, and what it costs.
func TestKinds(t *testing.T) {
	k := book(t)
	p, v := samplePuzzle(t, k), sampleValues()
	for cell, from := range v {
		l := ladderOf(t, k, p.Cells[cell].Ladder)
		isSum := cell == 3 || cell == 6 || cell == 7
		for _, to := range append(meantFor(t, l, from), 1, 2, 5, 100, 12345, api.MaxNum) {
			s, ok := slip(t, l, to, from)
			for _, kind := range []int{0, 1, 2, 3, 4, 5, 6, -1, mostInt, leastInt} {
				want, wantError := 0, api.ErrFix
				switch {
				case to < 1 || to == from:
				case ok && kind == s.Kind:
					want, wantError = 1, api.OK
				case !ok && isSum && kind == api.SlipTotal:
					want, wantError = 2, api.OK
				}
				f := []api.Fix{fix(cell, from, to, kind)}
				cost, e := account.Cost(k, p, v, f)
				expect(t, fmt.Sprint("Cost of ", f), cost, e, want, wantError)
			}
		}
	}
}

// P5.8: all cells can be corrected together.
func TestManyFixes(t *testing.T) {
	k := book(t)
	var rules []api.Rule
	for i := range 32 {
		rules = append(rules, rule(2*i))
	}
	p, v := puzzle(64, "count", rules...), slices.Repeat([]int{5}, 64)
	var f []api.Fix
	var want []int
	for i := range 64 {
		x := fix(i, 5, 4, api.SlipMore)
		if i%4 == 0 {
			x = fix(i, 5, 1000, api.SlipTotal)
		}
		f, want = append(f, x), append(want, x.To)
	}
	cost, e := account.Cost(k, p, v, f)
	expect(t, "Cost", cost, e, 80, api.OK)
	got, e := account.Apply(k, p, v, f)
	expect(t, "Apply", got, e, want, api.OK)
	cost, e = account.Cost(k, p, v, append(f, f[63]))
	expectZero(t, "Cost of 65 fixes", cost, e, api.ErrFix)
}
