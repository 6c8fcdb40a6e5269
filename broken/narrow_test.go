package broken_test

import (
	"fmt"
	"slices"
	"testing"

	"bulla/api"
	"bulla/broken"
)

// tallyOf returns the tally of a cell, from all completions.
func tallyOf(all [][]int, cell int) []api.Tally {
	var l []api.Tally
	for _, v := range all {
		i := slices.IndexFunc(l, func(x api.Tally) bool { return x.N == v[cell] })
		if i < 0 {
			i, l = len(l), append(l, api.Tally{N: v[cell]})
		}
		l[i].Count++
	}
	slices.SortFunc(l, func(a, b api.Tally) int { return a.N - b.N })
	return l
}

// once returns a tally in which each number stands once.
func once(numbers ...int) []api.Tally {
	var l []api.Tally
	for _, n := range numbers {
		l = append(l, api.Tally{N: n, Count: 1})
	}
	return l
}

// P6.4, P6.5: the chapter's examples, and puzzles without completions or cells.
func TestNarrow(t *testing.T) {
	k := book(t)
	r, s := sampleQ(t, "8(n01)"), sampleQ(t, "2(n01)")
	v, e := broken.Only(k, r)
	expect(t, "Only(r)", v, e, nil, api.ErrOpen)
	v, e = broken.Only(k, s)
	expect(t, "Only(s)", v, e, nil, api.ErrNone)
	v, e = broken.Only(k, sampleP(t))
	expect(t, "Only(p)", v, e, []int{60, 13, 4, 60, 17, 120}, api.OK)
	v, e = broken.Only(k, api.Puzzle{})
	expect(t, "Only of no cells", v, e, nil, api.OK)
	v, e = broken.Only(k, on(t, "count", texts("1+(n01)", "8+(n01)", "1(zz) [...]")))
	expect(t, "Only without choices", v, e, nil, api.ErrNone)
	v, e = broken.Sure(k, r)
	expect(t, "Sure(r)", v, e, []int{0, 0, 8}, api.OK)
	v, e = broken.Sure(k, s)
	expect(t, "Sure(s)", v, e, nil, api.ErrNone)
	v, e = broken.Sure(k, sampleP(t))
	expect(t, "Sure(p)", v, e, []int{60, 13, 4, 60, 17, 120}, api.OK)
	v, e = broken.Sure(k, api.Puzzle{})
	expect(t, "Sure of no cells", v, e, nil, api.OK)
	v, e = broken.Sure(k, on(t, "count", texts("8+(n01)", "9+(n01)", "8+(n01)", "[...]"), rule(3, 0, 2)))
	expect(t, "Sure of a cell that stands alone", v, e, []int{0, 9, 0, 0}, api.OK)
	l, e := broken.Narrow(k, r)
	expect(t, "Narrow(r)", l, e, [][]int{upTo(1, 6), upTo(2, 7), {8}}, api.OK)
	l, e = broken.Narrow(k, s)
	expect(t, "Narrow(s)", l, e, [][]int{{}, {}, {}}, api.OK)
	l, e = broken.Narrow(k, api.Puzzle{})
	expect(t, "Narrow of no cells", l, e, nil, api.OK)
	l, e = broken.Narrow(k, on(t, "count", texts("1(n01)", "2(n01)"), rule(1, 0)))
	expect(t, "Narrow of an account that does not add up", l, e, [][]int{{}, {}}, api.OK)
}

// P6.4: Tally.
func TestTally(t *testing.T) {
	k := book(t)
	r, open := sampleQ(t, "8(n01)"), on(t, "lone", slices.Repeat(texts("[...]"), 3))
	for _, x := range []struct {
		p    api.Puzzle
		cell int
		want []api.Tally
		e    api.Errno
	}{
		{r, 0, once(1, 2, 3, 4, 5, 6), api.OK}, {r, 1, once(2, 3, 4, 5, 6, 7), api.OK}, {r, 2, []api.Tally{{N: 8, Count: 6}}, api.OK},
		{r, 3, nil, api.ErrRange}, {r, -1, nil, api.ErrRange}, {r, mostInt, nil, api.ErrRange}, {r, leastInt, nil, api.ErrRange}, {api.Puzzle{}, 0, nil, api.ErrRange},
		{sampleQ(t, "2(n01)"), 0, nil, api.OK}, {sampleQ(t, "2(n01)"), 2, nil, api.OK}, {sampleQ(t, "2(n01)"), 3, nil, api.ErrRange},
		{open, 0, nil, api.ErrLimit}, {open, -1, nil, api.ErrLimit}, {open, 3, nil, api.ErrLimit},
		{sampleQ(t, "[...] 5+(n01)"), 2, []api.Tally{{N: 5, Count: 3}, {N: 6, Count: 4}, {N: 7, Count: 5}, {N: 8, Count: 6}, {N: 9, Count: 7}, {N: 15, Count: 4}, {N: 16, Count: 3}, {N: 17, Count: 2}, {N: 18, Count: 1}}, api.OK},
	} {
		l, e := broken.Tally(k, x.p, x.cell)
		expect(t, fmt.Sprint("Tally of ", x.p, x.cell), l, e, x.want, x.e)
	}
}

// P6.5: Ask.
func TestAsk(t *testing.T) {
	k := book(t)
	for _, x := range []struct {
		p           api.Puzzle
		cell, worst int
		e           api.Errno
	}{
		{sampleQ(t, "8(n01)"), 0, 1, api.OK}, {sampleQ(t, "[...]"), 0, 8, api.OK}, {sampleQ(t, "2(n01)"), 0, 0, api.ErrNone}, {sampleP(t), 0, 0, api.ErrNone}, {api.Puzzle{}, 0, 0, api.ErrNone},
		{on(t, "lone", slices.Repeat(texts("[...]"), 3)), 0, 0, api.ErrLimit},
		{on(t, "count", texts("9(n01)", "8+(n01)")), 1, 1, api.OK}, {on(t, "count", texts("9(n01)", "8+(n01)", "7+(n01)")), 2, 2, api.OK}, {on(t, "count", texts("9+(n01)", "7+(n01)", "7+(n01)")), 1, 3, api.OK},
		// the sum tells the most: 18 for 9 and 9, 17 for two completions, 16 for one
		{on(t, "count", texts("8+(n01)", "8+(n01)", "[...]"), rule(2, 0, 1)), 0, 2, api.OK}, {on(t, "count", texts("[...]", "8+(n01)", "7+(n01)"), rule(0, 1, 2)), 0, 2, api.OK}, {on(t, "count", texts("9+(n01)", "8+(n01)", "[...]"), rule(2, 0, 1)), 1, 1, api.OK},
	} {
		cell, worst, e := broken.Ask(k, x.p)
		expect(t, fmt.Sprint("Ask of ", x.p), []int{cell, worst}, e, []int{x.cell, x.worst}, x.e)
	}
}

// P6.4, P6.5, P6.12: what is said of random puzzles is what their completions say.
func TestNarrowOfRandom(t *testing.T) {
	k, random := book(t), newRandom()
	seen := map[int]int{} // by the number of completions: none, one, or more
	for range 2000 {
		p, _ := randomPuzzle(t, random, k)
		all, ok := completions(t, k, p)
		if !ok {
			continue
		}
		seen[min(2, len(all))]++
		expectSaid(t, fmt.Sprint("of ", p), p, all)
	}
	if seen[0] < 100 || seen[1] < 100 || seen[2] < 100 {
		t.Errorf("puzzles by their completions: %v", seen)
	}
}

// expectSaid compares what is said of a puzzle with its completions.
func expectSaid(t *testing.T, of string, p api.Puzzle, all [][]int) {
	t.Helper()
	k := book(t)
	numbers, sure := make([][]int, len(p.Cells)), make([]int, len(p.Cells))
	best, worst := 0, len(all)+1
	for i := range p.Cells {
		want, greatest := tallyOf(all, i), 0
		for _, x := range want {
			numbers[i] = append(numbers[i], x.N)
			greatest = max(greatest, x.Count)
		}
		if len(want) == 1 {
			sure[i] = want[0].N
		}
		if greatest < worst {
			best, worst = i, greatest
		}
		tally, e := broken.Tally(k, p, i)
		expect(t, fmt.Sprint("Tally ", of, i), tally, e, want, api.OK)
	}
	l, e := broken.Narrow(k, p)
	expect(t, "Narrow "+of, l, e, numbers, api.OK)
	only, e := broken.Only(k, p)
	s, f := broken.Sure(k, p)
	cell, n, g := broken.Ask(k, p)
	switch len(all) {
	case 0:
		expect(t, "Only "+of, only, e, nil, api.ErrNone)
		expect(t, "Sure "+of, s, f, nil, api.ErrNone)
		expect(t, "Ask "+of, []int{cell, n}, g, []int{0, 0}, api.ErrNone)
	case 1:
		expect(t, "Only "+of, only, e, all[0], api.OK)
		expect(t, "Sure "+of, s, f, all[0], api.OK)
		expect(t, "Ask "+of, []int{cell, n}, g, []int{0, 0}, api.ErrNone)
	default:
		expect(t, "Only "+of, only, e, nil, api.ErrOpen)
		expect(t, "Sure "+of, s, f, sure, api.OK)
		expect(t, "Ask "+of, []int{cell, n}, g, []int{best, worst}, api.OK)
	}
}
