package broken_test

import (
	"fmt"
	"slices"
	"testing"

	"bulla/api"
	"bulla/broken"
	"bulla/numeral"
)

// P6.3: Count and All of puzzles whose completions are known.
func TestAll(t *testing.T) {
	k := book(t)
	for _, x := range []struct {
		p    api.Puzzle
		want [][]int
	}{
		{sampleP(t), [][]int{{60, 13, 4, 60, 17, 120}}},
		{sampleQ(t, "8(n01)"), [][]int{{1, 7, 8}, {2, 6, 8}, {3, 5, 8}, {4, 4, 8}, {5, 3, 8}, {6, 2, 8}}},
		{sampleQ(t, "2(n01)"), nil}, {sampleQ(t, "1(n01)"), nil}, {sampleQ(t, "1+(n14) 8(n01)"), [][]int{{9, 9, 18}}},
		{api.Puzzle{}, [][]int{{}}},
		{on(t, "count", texts("5(n01)")), [][]int{{5}}},
		// a sum before its parts comes first in the order
		{on(t, "count", texts("[...] 1+(n01)", "8+(n01)", "8+(n01)"), rule(0, 1, 2)), [][]int{{16, 8, 8}, {17, 8, 9}, {17, 9, 8}, {18, 9, 9}}},
		// rules that share parts
		{on(t, "count", texts("[...]", "[...]", "[...]", "8(n01)", "9(n01)", "7(n01)"), rule(3, 0, 1), rule(4, 0, 2), rule(5, 1, 2)), [][]int{{5, 3, 4, 8, 9, 7}}},
		{on(t, "count", texts("[...]", "[...]", "8(n01)", "9(n01)"), rule(2, 0, 1), rule(3, 0, 1)), nil},
		{on(t, "count", texts("[...]", "[...]", "8(n01)", "8(n01)", "[...] 8(n01)"), rule(2, 0, 1), rule(3, 0, 1), rule(4, 1)), nil},
		{on(t, "count", texts("[...]", "6+(n01)", "8(n01)", "8(n01)", "[...] 6(n01)"), rule(2, 0, 1), rule(3, 0, 1), rule(4, 1)), [][]int{{2, 6, 8, 8, 6}}},
		// a rule without parts
		{on(t, "count", texts("1(n01)"), rule(0)), nil}, {on(t, "count", texts("[...]"), rule(0)), nil}, {on(t, "count", texts("1(n01)", "[...] 1(n01)"), rule(1, 0)), [][]int{{1, 1}}},
		// whole amounts that do not add up
		{on(t, "count", texts("1(n01)", "2(n01)", "4(n01)"), rule(2, 0, 1)), nil}, {on(t, "count", texts("1(n01)", "2(n01)", "1(n14) la2 7(n01)"), rule(2, 0, 1)), [][]int{{1, 2, 3}}},
		// amounts of two ladders
		{puzzle(t, texts("grain 2(n14)", "count 2+(n14)", "grain [...] 1(n14)"), rule(2, 0)), nil}, {puzzle(t, texts("grain 2(n14)", "count 4+(n14)", "grain 1+(n14)"), rule(2, 0)), [][]int{{60, 40, 60}, {60, 50, 60}}},
	} {
		all, e := broken.All(k, x.p, 100)
		expect(t, fmt.Sprint("All of ", x.p), all, e, x.want, api.OK)
		n, e := broken.Count(k, x.p)
		expect(t, fmt.Sprint("Count of ", x.p), n, e, len(x.want), api.OK)
	}
	n, e := broken.Count(k, sampleQ(t, "[...]"))
	expect(t, "Count(q)", n, e, 72, api.OK)
}

// P6.3: the limit of All.
func TestLimitOfAll(t *testing.T) {
	k := book(t)
	r, open := sampleQ(t, "8(n01)"), on(t, "lone", slices.Repeat(texts("[...]"), 3))
	for _, x := range []struct {
		p     api.Puzzle
		limit int
		n     int
		e     api.Errno
	}{
		{r, 6, 6, api.OK}, {r, 4096, 6, api.OK}, {r, 5, 0, api.ErrLimit}, {r, 1, 0, api.ErrLimit}, {r, 0, 0, api.ErrRange}, {r, -1, 0, api.ErrRange}, {r, 4097, 0, api.ErrRange}, {r, mostInt, 0, api.ErrRange}, {r, leastInt, 0, api.ErrRange},
		{open, 0, 0, api.ErrRange}, {open, 4097, 0, api.ErrRange}, {open, 4096, 0, api.ErrLimit},
		{sampleP(t), 1, 1, api.OK}, {api.Puzzle{}, 1, 1, api.OK}, {sampleQ(t, "2(n01)"), 1, 0, api.OK}, {sampleQ(t, "2(n01)"), 0, 0, api.ErrRange},
	} {
		all, e := broken.All(k, x.p, x.limit)
		expect(t, fmt.Sprint("All of ", x.p, x.limit), len(all), e, x.n, x.e)
	}
	// 4096 completions, and one more
	for _, x := range []struct {
		total string
		n     int
		e     api.Errno
	}{{"40(c) 9(b) 6(a)", 4095, api.OK}, {"40(c) 9(b) 7(a)", 4096, api.OK}} {
		all, e := broken.All(k, on(t, "tens", texts("[...]", "[...]", x.total), rule(2, 0, 1)), 4096)
		expect(t, "All of "+x.total, len(all), e, x.n, x.e)
	}
	p := on(t, "tens", texts("[...]", "[...]", "40(c) 9(b) 7(a)", "8+(a)"), rule(2, 0, 1))
	all, e := broken.All(k, p, 4096)
	expect(t, "All of 8192", all, e, nil, api.ErrLimit)
	n, e := broken.Count(k, p)
	expect(t, "Count of 8192", n, e, 8192, api.OK)
}

// P6.3, P6.9: All lists exactly the completions of random puzzles, and Is accepts them.
func TestAllOfRandom(t *testing.T) {
	k, random := book(t), newRandom()
	tried, found := 0, 0
	for range 3000 {
		p, values := randomPuzzle(t, random, k)
		want, ok := completions(t, k, p)
		if !ok {
			continue
		}
		tried, found = tried+1, found+min(1, len(want))
		n, e := broken.Count(k, p)
		expect(t, fmt.Sprint("Count of ", p), n, e, len(want), api.OK)
		is, e := broken.Is(k, p, values)
		expect(t, fmt.Sprint("Is of ", p, values), is, e, isCompletion(t, k, p, values), api.OK)
		if len(want) > api.MaxFound {
			continue
		}
		all, e := broken.All(k, p, api.MaxFound)
		expect(t, fmt.Sprint("All of ", p), all, e, want, api.OK)
		for _, v := range all {
			is, e := broken.Is(k, p, v)
			expect(t, fmt.Sprint("Is of ", p, v), is, e, true, api.OK)
		}
	}
	if tried < 2000 || found < 1000 {
		t.Errorf("%d puzzles were tried, %d of them with completions", tried, found)
	}
}

// P6.10: an account without damaged cells.
func TestWhole(t *testing.T) {
	k, random := book(t), newRandom()
	seen := map[bool]int{}
	for range 500 {
		p, values := randomPuzzle(t, random, k)
		for i := range p.Cells {
			written, e := numeral.Write(ladderOf(t, k, p.Cells[i].Ladder), values[i])
			expectError(t, "Write", e, api.OK)
			p.Cells[i].Trace = written
		}
		var want [][]int
		if isCompletion(t, k, p, values) {
			want = [][]int{values}
		}
		seen[want == nil]++
		all, e := broken.All(k, p, 1)
		expect(t, fmt.Sprint("All of ", p), all, e, want, api.OK)
	}
	if seen[true] < 50 || seen[false] < 50 {
		t.Errorf("accounts that add up, and others: %v", seen)
	}
}

// P6.10: what was a completion before an account was damaged further is still one.
func TestDamagedFurther(t *testing.T) {
	k, random := book(t), newRandom()
	kept := 0
	for range 1500 {
		p, values := randomPuzzle(t, random, k)
		before, e := broken.All(k, p, 1000)
		if e == api.ErrLimit {
			continue
		}
		expectError(t, "All", e, api.OK)
		q := p
		q.Cells = slices.Clone(p.Cells)
		for i := range q.Cells {
			q.Cells[i].Trace = damaged(random, p.Cells[i].Trace)
		}
		all, e := broken.All(k, q, api.MaxFound)
		if e == api.ErrLimit {
			continue
		}
		expectError(t, "All", e, api.OK)
		for _, v := range before {
			if _, ok := slices.BinarySearchFunc(all, v, slices.Compare); !ok {
				t.Errorf("%v is a completion of %v, but not of %v", v, p, q)
			}
			kept++
		}
		wrong := func(r api.Rule) bool { return values[r.Total] != added(values, r.Parts) }
		if _, ok := slices.BinarySearchFunc(all, values, slices.Compare); !ok && !slices.ContainsFunc(p.Rules, wrong) {
			t.Errorf("%v, which was damaged, is no completion of %v", values, q)
		}
	}
	if kept < 1000 {
		t.Errorf("%d completions were kept", kept)
	}
}

// P6.13: the order of the rules does not matter.
func TestOrderOfRules(t *testing.T) {
	k, random := book(t), newRandom()
	tried := 0
	for range 1000 {
		p, _ := randomPuzzle(t, random, k)
		all, e := broken.All(k, p, api.MaxFound)
		q := p
		q.Rules = slices.Clone(p.Rules)
		slices.Reverse(q.Rules)
		if random.Shuffle(len(q.Rules), func(i, j int) { q.Rules[i], q.Rules[j] = q.Rules[j], q.Rules[i] }); len(q.Rules) < 2 {
			continue
		}
		tried++
		again, f := broken.All(k, q, api.MaxFound)
		expect(t, fmt.Sprint("All of ", q), again, f, all, e)
	}
	if tried < 200 {
		t.Errorf("%d puzzles were tried", tried)
	}
}
