package account_test

import (
	"cmp"
	"fmt"
	"math/rand/v2"
	"slices"
	"testing"
	"time"

	"bulla/account"
	"bulla/api"
	"bulla/metro"
)

// cheapest returns all cheapest corrections, in their order: the items are changed in every way that the cost allows, which leaves no choice for the sums.
func cheapest(t *testing.T, k *metro.Book, p api.Puzzle, v []int, most int) (all [][]api.Fix) {
	t.Helper()
	slips := make([][]api.Slip, len(v))
	for i, c := range p.Cells {
		l := ladderOf(t, k, c.Ladder)
		slips[i] = slipsTo(t, l, v[i], meantFor(t, l, v[i]))
	}
	isSum := func(cell int) bool {
		return slices.ContainsFunc(p.Rules, func(r api.Rule) bool { return r.Total == cell })
	}
	least := most
	finish := func(f []api.Fix, w []int, cost int) {
		f = slices.Clone(f)
		for _, r := range p.Rules {
			sum := added(w, r.Parts)
			if sum == v[r.Total] {
				continue
			}
			x := fix(r.Total, v[r.Total], sum, api.SlipTotal)
			if i := slices.IndexFunc(slips[r.Total], func(s api.Slip) bool { return s.N == sum }); i >= 0 {
				x.Kind = slips[r.Total][i].Kind
				cost--
			}
			f, cost = append(f, x), cost+2
			if sum < 1 || sum > api.MaxNum {
				return
			}
		}
		if cost > least {
			return
		}
		if cost < least {
			all, least = nil, cost
		}
		slices.SortFunc(f, func(a, b api.Fix) int { return cmp.Compare(a.Cell, b.Cell) })
		all = append(all, f)
	}
	var change func(cell int, f []api.Fix, w []int)
	change = func(cell int, f []api.Fix, w []int) {
		if cell == len(v) {
			finish(f, w, len(f))
			return
		}
		change(cell+1, f, w)
		if isSum(cell) || len(f) == most {
			return
		}
		for _, s := range slips[cell] {
			w[cell] = s.N
			change(cell+1, append(f[:len(f):len(f)], fix(cell, v[cell], s.N, s.Kind)), w)
		}
		w[cell] = v[cell]
	}
	change(0, nil, slices.Clone(v))
	slices.SortFunc(all, compare)
	return all
}

// compare tells how corrections are ordered.
func compare(a, b []api.Fix) int {
	for i := 0; i < len(a) && i < len(b); i++ {
		if a[i].Cell != b[i].Cell {
			return a[i].Cell - b[i].Cell
		}
		if a[i].To != b[i].To {
			return a[i].To - b[i].To
		}
	}
	return len(a) - len(b)
}

// expectRepairs compares Repair and Repairs with the corrections that are wanted, the cheapest ones with any cost that is allowed.
func expectRepairs(t *testing.T, call string, k *metro.Book, p api.Puzzle, v []int, want [][]api.Fix) {
	t.Helper()
	cost := api.MaxCost + 1
	if len(want) > 0 {
		c, e := account.Cost(k, p, v, want[0])
		expect(t, call+": Cost", c, e, c, api.OK)
		cost = c
	}
	for most := range api.MaxCost + 1 {
		f, e := account.Repair(k, p, v, most)
		all, g := account.Repairs(k, p, v, most, api.MaxRepairs)
		few, h := account.Repairs(k, p, v, most, min(max(len(want)-1, 1), api.MaxRepairs))
		if most < cost {
			expectZero(t, fmt.Sprint(call, ": Repair ", most), f, e, api.ErrNone)
			expectZero(t, fmt.Sprint(call, ": Repairs ", most), all, g, api.ErrNone)
			expectZero(t, fmt.Sprint(call, ": Repairs ", most), few, h, api.ErrNone)
			continue
		}
		expect(t, fmt.Sprint(call, ": Repair ", most), f, e, want[0], api.OK)
		if len(want) > api.MaxRepairs {
			expectZero(t, fmt.Sprint(call, ": Repairs ", most), all, g, api.ErrLimit)
		} else {
			expect(t, fmt.Sprint(call, ": Repairs ", most), all, g, want, api.OK)
		}
		if len(want) > 1 {
			expectZero(t, fmt.Sprint(call, ": few Repairs ", most), few, h, api.ErrLimit)
		} else {
			expect(t, fmt.Sprint(call, ": few Repairs ", most), few, h, want, api.OK)
		}
	}
}

func fixes(f ...api.Fix) []api.Fix { return f }

// P5.9: the chapter's example, and accounts with some cheapest corrections of different kinds.
func TestRepair(t *testing.T) {
	k := book(t)
	more, less, total := api.SlipMore, api.SlipLess, api.SlipTotal
	late, early := rule(2, 0, 1), rule(0, 1, 2)
	for _, x := range []struct {
		call string
		p    api.Puzzle
		v    []int
		want [][]api.Fix
	}{
		{"the example", samplePuzzle(t, k), sampleValues(), [][]api.Fix{fixes(fix(5, 2, 3, less))}},
		{"no cells", api.Puzzle{}, nil, [][]api.Fix{nil}},
		{"no rules", puzzle(2, "count"), []int{1, 2}, [][]api.Fix{nil}},
		{"what adds up", puzzle(3, "count", late), []int{1, 2, 3}, [][]api.Fix{nil}},
		{"the sum of nothing", puzzle(1, "count", rule(0)), []int{1}, nil},
		{"the sum of nothing, beside one of something", puzzle(4, "count", rule(3), late), []int{1, 2, 3, 1}, nil},
		{"one mark too many in a sum", puzzle(3, "count", late), []int{2, 3, 6}, [][]api.Fix{fixes(fix(0, 2, 3, less)), fixes(fix(1, 3, 4, less)), fixes(fix(2, 6, 5, more))}},
		{"the same with the total before its parts", puzzle(3, "count", early), []int{6, 2, 3}, [][]api.Fix{fixes(fix(0, 6, 5, more)), fixes(fix(1, 2, 3, less)), fixes(fix(2, 3, 4, less))}},
		{"two slips, or another total", puzzle(3, "lone", late), []int{2, 3, 7}, [][]api.Fix{fixes(fix(0, 2, 3, less), fix(1, 3, 4, less)), fixes(fix(0, 2, 3, less), fix(2, 7, 6, more)), fixes(fix(1, 3, 4, less), fix(2, 7, 6, more)), fixes(fix(2, 7, 5, total))}},
		{"another total", puzzle(3, "lone", late), []int{2, 3, 50}, [][]api.Fix{fixes(fix(2, 50, 5, total))}},
		{"two other totals", puzzle(4, "lone", rule(2, 0, 1), rule(3, 0)), []int{2, 3, 50, 50}, nil},
		{"another total, and a slip", puzzle(4, "lone", rule(2, 0, 1), rule(3, 0)), []int{2, 3, 50, 3}, [][]api.Fix{fixes(fix(0, 2, 3, less), fix(2, 50, 6, total)), fixes(fix(2, 50, 5, total), fix(3, 3, 2, more))}},
		{"a total that is too great for a value unless a part is less", puzzle(3, "lone", early), []int{9, api.MaxNum, 1}, [][]api.Fix{fixes(fix(0, 9, api.MaxNum, total), fix(1, api.MaxNum, api.MaxNum-1, more))}},
		{"the same with the total behind its parts", puzzle(3, "lone", late), []int{api.MaxNum, 1, 9}, [][]api.Fix{fixes(fix(0, api.MaxNum, api.MaxNum-1, more), fix(2, 9, api.MaxNum, total))}},
		{"the greatest total", puzzle(3, "lone", late), []int{api.MaxNum - 1, 1, 9}, [][]api.Fix{fixes(fix(2, 9, api.MaxNum, total))}},
		{"totals that are always too great", puzzle(3, "lone", late), []int{api.MaxNum, api.MaxNum, 9}, nil},
		{"a part that is in two rules", puzzle(4, "lone", rule(2, 0, 1), rule(3, 0)), []int{3, 3, 5, 2}, [][]api.Fix{fixes(fix(0, 3, 2, more))}},
		{"a rule that holds until a part is corrected", puzzle(5, "lone", rule(2, 0, 1), rule(3, 0), rule(4, 1)), []int{10, 10, 20, 11, 9}, [][]api.Fix{fixes(fix(0, 10, 11, less), fix(1, 10, 9, more)), fixes(fix(3, 11, 10, more), fix(4, 9, 10, less))}},
	} {
		expectRepairs(t, x.call, k, x.p, x.v, x.want)
	}
}

// P5.9: costs and limits out of range.
func TestRepairErrors(t *testing.T) {
	k := book(t)
	p, v := samplePuzzle(t, k), sampleValues()
	for _, most := range []int{-1, 4, mostInt, leastInt} {
		f, e := account.Repair(k, p, v, most)
		expectZero(t, fmt.Sprint("Repair ", most), f, e, api.ErrRange)
		for _, limit := range []int{0, 1, 100} {
			all, e := account.Repairs(k, p, v, most, limit)
			expectZero(t, fmt.Sprint("Repairs ", most, limit), all, e, api.ErrRange)
		}
	}
	for _, limit := range []int{0, -1, 101, mostInt, leastInt} {
		for _, most := range []int{0, 1, 3} {
			all, e := account.Repairs(k, p, v, most, limit)
			expectZero(t, fmt.Sprint("Repairs ", most, limit), all, e, api.ErrRange)
		}
	}
	for _, limit := range []int{1, 2, 100} {
		all, e := account.Repairs(k, p, v, 1, limit)
		expect(t, fmt.Sprint("Repairs ", limit), all, e, [][]api.Fix{{fix(5, 2, 3, api.SlipLess)}}, api.OK)
		all, e = account.Repairs(k, p, v, 0, limit)
		expectZero(t, fmt.Sprint("Repairs without costs ", limit), all, e, api.ErrNone)
	}
	// exactly as many as the limit
	var parts []int
	for i := range 63 {
		parts = append(parts, i)
	}
	p, v = puzzle(64, "lone", rule(63, parts...)), append(slices.Repeat([]int{5}, 63), 316)
	all, e := account.Repairs(k, p, v, 3, 64)
	expect(t, "Repairs of 64", len(all), e, 64, api.OK)
	all, e = account.Repairs(k, p, v, 3, 63)
	expectZero(t, "Repairs of 64", all, e, api.ErrLimit)
	v[63] = 317
	all, e = account.Repairs(k, p, v, 3, 100)
	expectZero(t, "Repairs of 2017", all, e, api.ErrLimit)
	f, e := account.Repair(k, p, v, 3)
	expect(t, "Repair of 2017", f, e, fixes(fix(0, 5, 6, api.SlipLess), fix(1, 5, 6, api.SlipLess)), api.OK)
}

// somePuzzle returns a puzzle of a few cells.
func somePuzzle(random *rand.Rand, cells int) api.Puzzle {
	p := puzzle(cells, pick(random, "lone", "twos", "threes", "mixed", "count"))
	totals := random.Perm(cells)[:1+random.IntN((cells+1)/2)]
	for _, total := range totals {
		r := rule(total)
		for i := range cells {
			if !slices.Contains(totals, i) && random.IntN(3) > 0 {
				r.Parts = append(r.Parts, i)
			}
		}
		p.Rules = append(p.Rules, r)
	}
	return p
}

// someValues returns values with which the account nearly adds up.
func someValues(t *testing.T, random *rand.Rand, k *metro.Book, p api.Puzzle, slipped int) []int {
	t.Helper()
	v := make([]int, len(p.Cells))
	for i := range v {
		v[i] = 1 + random.IntN(pick(random, 3, 10, 80))
	}
	for _, r := range p.Rules {
		v[r.Total] = max(added(v, r.Parts), 1)
	}
	for _, i := range random.Perm(len(v))[:min(slipped, len(v))] {
		slips, e := account.Slips(ladderOf(t, k, p.Cells[i].Ladder), v[i])
		expectError(t, "Slips", e, api.OK)
		v[i] = pick(random, slips...).N
	}
	return v
}

// P5.9, P4: the cheapest corrections, and their order, compared with a search through all ways to change the items.
func TestRepairs(t *testing.T) {
	k, random := book(t), newRandom()
	none, costs := 0, map[int]int{}
	for range 700 {
		p := somePuzzle(random, 1+random.IntN(7))
		v := someValues(t, random, k, p, random.IntN(4))
		if random.IntN(4) == 0 {
			v[random.IntN(len(v))] = pick(random, 1, 17, 1000, api.MaxNum, api.MaxNum-1)
		}
		want := cheapest(t, k, p, v, api.MaxCost)
		if len(want) == 0 {
			none++
		} else if c, e := account.Cost(k, p, v, want[0]); e == api.OK {
			costs[c]++
		}
		expectRepairs(t, fmt.Sprintf("%s %v %v", p.Cells[0].Ladder, p.Rules, v), k, p, v, want)
	}
	if none < 20 || costs[0] < 20 || costs[1] < 20 || costs[2] < 20 || costs[3] < 20 {
		t.Errorf("too few accounts of some kind: %d without corrections, costs %v", none, costs)
	}
}

// bigPuzzle returns a puzzle of 64 cells on a ladder, of which the last ones are sums.
func bigPuzzle(random *rand.Rand, ladder string, sums int) api.Puzzle {
	p := puzzle(64, ladder)
	for i := range sums {
		r := rule(64 - sums + i)
		for part := range 64 - sums {
			if i == 0 || random.IntN(2) == 0 {
				r.Parts = append(r.Parts, part)
			}
		}
		p.Rules = append(p.Rules, r)
	}
	return p
}

// P5.15, P4: up to three slips in big accounts are corrected with at most as great a cost, and then the account adds up.
func TestSlipsAreRepaired(t *testing.T) {
	k, random := book(t), newRandom()
	begun := time.Now()
	for _, ladder := range []string{"count", "weight", "deep", "lone"} {
		for _, sums := range []int{1, 2, 8, 21, 40} {
			for slipped := range 4 {
				p := bigPuzzle(random, ladder, sums)
				v := someValues(t, random, k, p, slipped)
				f, e := account.Repair(k, p, v, max(slipped, random.IntN(4)))
				call := fmt.Sprintf("%s, %d sums, %d slips", ladder, sums, slipped)
				expectError(t, call+": Repair", e, api.OK)
				cost, e := account.Cost(k, p, v, f)
				expect(t, call+": Cost", cost <= slipped, e, true, api.OK)
				w, e := account.Apply(k, p, v, f)
				expect(t, call+": adds up", addsUp(p, w), e, true, api.OK)
				if cost > 0 {
					f, e = account.Repair(k, p, v, cost-1)
					expectZero(t, call+": cheaper", f, e, api.ErrNone)
				}
			}
		}
	}
	if took := time.Since(begun); took > time.Minute {
		t.Errorf("repairs took %v", took)
	}
}

// P5.15: what was corrected is read as the corrected values.
func TestCorrectedTablets(t *testing.T) {
	k, random := book(t), newRandom()
	repaired := 0
	for range 300 {
		x := someTablet(t, random)
		p, e := account.Build(k, sampleGoods(), x)
		expectError(t, "Build", e, api.OK)
		var v []int
		for i := range p.Cells {
			v = append(v, 1+random.IntN(400))
			if r := slices.IndexFunc(p.Rules, func(r api.Rule) bool { return r.Total == i }); r >= 0 {
				v[i] = max(1, added(v, p.Rules[r].Parts))
			}
		}
		if f, e := account.Repair(k, p, v, 3); e == api.OK {
			w, e := account.Apply(k, p, v, f)
			expectError(t, "Apply", e, api.OK)
			v = w
			repaired++
		}
		y, e := account.Correct(k, sampleGoods(), x, v)
		expectError(t, "Correct", e, api.OK)
		q, e := account.Build(k, sampleGoods(), y)
		expect(t, "rules of the corrected tablet", q.Rules, e, p.Rules, api.OK)
		w, e := account.Read(k, q)
		expect(t, "values of the corrected tablet", w, e, v, api.OK)
		again, e := account.Correct(k, sampleGoods(), y, v)
		expect(t, "corrected again", again, e, y, api.OK)
	}
	if repaired < 50 {
		t.Errorf("only %d tablets could be repaired", repaired)
	}
}
