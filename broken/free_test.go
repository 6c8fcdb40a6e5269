package broken_test

import (
	"fmt"
	"slices"
	"testing"

	"bulla/api"
	"bulla/broken"
	"bulla/metro"
	"bulla/numeral"
)

// valueOf returns the value of a whole cell, or false if the cell is damaged.
func valueOf(t *testing.T, k *metro.Book, c api.Cell) (int, bool) {
	t.Helper()
	if numeral.Damaged(c.Trace) {
		return 0, false
	}
	n, e := numeral.Read(ladderOf(t, k, c.Ladder), c.Trace)
	if e != api.OK {
		t.Fatalf("Read(%v): error %d", c, e)
	}
	return n, true
}

// domainOf returns the domain of a cell as the chapter defines it, and false if the cell is damaged and no free item. With more than 4096 numbers it returns nil and ErrLimit.
func domainOf(t *testing.T, k *metro.Book, p api.Puzzle, cell int) ([]int, bool, api.Errno) {
	t.Helper()
	if n, ok := valueOf(t, k, p.Cells[cell]); ok {
		return []int{n}, true, api.OK
	}
	if isSum(p, cell) {
		return nil, false, api.OK
	}
	least := api.MaxNum
	for _, r := range p.Rules {
		room, ok := valueOf(t, k, p.Cells[r.Total])
		if !ok || !slices.Contains(r.Parts, cell) {
			continue
		}
		isLast := true
		for _, part := range r.Parts {
			if n, ok := valueOf(t, k, p.Cells[part]); ok {
				room -= n
			} else if part != cell {
				room--
				isLast = isLast && part < cell
			}
		}
		if isLast {
			return nil, false, api.OK
		}
		least = min(least, room)
	}
	if least < 1 {
		return nil, true, api.OK
	}
	l, e := numeral.Candidates(ladderOf(t, k, p.Cells[cell].Ladder), p.Cells[cell].Trace, least, api.MaxFound)
	return l, true, e
}

// P6.2: Free and Domain of random puzzles are as they are defined.
func TestFreeOfRandom(t *testing.T) {
	k, random := book(t), newRandom()
	seen := map[int]int{}
	for range 3000 {
		p, _ := randomPuzzle(t, random, k)
		var free []int
		choices := 1
		for i, c := range p.Cells {
			want, ok, e := domainOf(t, k, p, i)
			if !ok {
				e = api.ErrNone
			}
			_, isWhole := valueOf(t, k, c)
			if ok && !isWhole {
				free, choices = append(free, i), choices*len(want)
			}
			got, f := broken.Domain(k, p, i)
			expect(t, fmt.Sprint("Domain of ", p, i), got, f, want, e)
		}
		seen[len(free)]++
		got, e := broken.Free(k, p)
		expect(t, fmt.Sprint("Free of ", p), got, e, free, api.OK)
		n, e := broken.Choices(k, p)
		if choices > api.MaxChoice {
			expect(t, fmt.Sprint("Choices of ", p), n, e, 0, api.ErrLimit)
		} else {
			expect(t, fmt.Sprint("Choices of ", p), n, e, choices, api.OK)
		}
	}
	if seen[0] < 300 || seen[1] < 300 || seen[2] < 300 || seen[3] < 100 {
		t.Errorf("puzzles by their free items: %v", seen)
	}
}

// P6.2: Free.
func TestFree(t *testing.T) {
	k := book(t)
	open := "1+(n01)"
	for _, x := range []struct {
		p    api.Puzzle
		want []int
	}{
		{api.Puzzle{}, nil}, {sampleP(t), nil}, {sampleQ(t, "[...]"), []int{0, 1}}, {sampleQ(t, "8(n01)"), []int{0}},
		{on(t, "count", texts(open, open)), []int{0, 1}},
		{on(t, "count", texts(open, open), rule(1, 0)), []int{0}},
		{on(t, "count", texts(open, open, "8(n01)"), rule(2)), []int{0, 1}},
		// two rules bind two parts; one part may be bound by two rules
		{on(t, "count", texts(open, open, open, "8(n01)", "9(n01)"), rule(3, 0, 1), rule(4, 0, 2)), []int{0}},
		{on(t, "count", texts(open, open, open, "8(n01)", "9(n01)"), rule(3, 0, 2), rule(4, 1, 2)), []int{0, 1}},
		{on(t, "count", texts(open, open, open, "8(n01)", "9(n01)"), rule(3, 0, 1), rule(4, 0, 1, 2)), []int{0}},
		{on(t, "count", texts(open, open, open, "8(n01)", open), rule(3, 0, 1), rule(4, 0, 1, 2)), []int{0, 2}},
		// whole parts behind it do not matter
		{on(t, "count", texts("9(n01)", open, open, "1(n01)"), rule(0, 1, 2, 3)), []int{1}},
		{on(t, "count", texts("9(n01)", "3(n01)", open, "1(n01)"), rule(0, 1, 2, 3)), nil},
	} {
		free, e := broken.Free(k, x.p)
		expect(t, fmt.Sprint("Free of ", x.p), free, e, x.want, api.OK)
	}
}

// P6.2: Domain.
func TestDomain(t *testing.T) {
	k := book(t)
	r := sampleQ(t, "8(n01)")
	rooms := on(t, "count", texts("[...]", "2(n01)", "[...]", "[...]", "2(n14)", "9(n01)", "[...]"), rule(4, 0, 1, 2, 3), rule(5, 0, 3), rule(6, 0, 1))
	for _, x := range []struct {
		p    api.Puzzle
		cell int
		want []int
		e    api.Errno
	}{
		{r, 0, upTo(1, 7), api.OK}, {r, 1, nil, api.ErrNone}, {r, 2, []int{8}, api.OK}, {r, 3, nil, api.ErrRange}, {r, -1, nil, api.ErrRange}, {r, mostInt, nil, api.ErrRange}, {r, leastInt, nil, api.ErrRange},
		{api.Puzzle{}, 0, nil, api.ErrRange},
		{sampleQ(t, "[...]"), 0, upTo(1, 9), api.OK}, {sampleQ(t, "[...]"), 1, upTo(2, 9), api.OK}, {sampleQ(t, "[...]"), 2, nil, api.ErrNone},
		{sampleQ(t, "2(n01)"), 0, []int{1}, api.OK}, {sampleQ(t, "1(n01)"), 0, nil, api.OK},
		// 20 - 2 - 1 - 1 is 16; 9 - 1 is 8; a sum that is damaged leaves room for everything
		{rooms, 0, upTo(1, 8), api.OK}, {rooms, 2, upTo(1, 16), api.OK}, {rooms, 3, nil, api.ErrNone}, {rooms, 6, nil, api.ErrNone}, {rooms, 4, []int{20}, api.OK},
		{on(t, "count", texts("[...]", "[...]", "5(n01)", "3(n01)"), rule(3, 0, 1, 2)), 0, nil, api.OK},
		{on(t, "count", texts("[...]", "[...]", "2(n01)"), rule(2, 0, 1)), 0, []int{1}, api.OK},
		{on(t, "count", texts("1+(zz)")), 0, nil, api.OK},
		{on(t, "count", texts("12+(n01)")), 0, nil, api.OK}, {on(t, "count", texts("[...] 12(n01)")), 0, nil, api.OK}, {on(t, "count", texts("[...] 9(n14) 10(n01)")), 0, nil, api.OK},
		{on(t, "lone", texts("[...]")), 0, upTo(1, 99), api.OK},
		{on(t, "vast", texts("23+(g) [...]", "1(n01)")[:1]), 0, nil, api.ErrLimit},
		// 4096 numbers, and one more
		{on(t, "tens", texts("[...]", "[...]", "40(c) 9(b) 7(a)"), rule(2, 0, 1)), 0, upTo(1, 4096), api.OK},
		{on(t, "tens", texts("[...]", "[...]", "40(c) 9(b) 8(a)"), rule(2, 0, 1)), 0, nil, api.ErrLimit},
		{on(t, "tens", texts("[...]")), 0, nil, api.ErrLimit},
	} {
		domain, e := broken.Domain(k, x.p, x.cell)
		expect(t, fmt.Sprint("Domain of ", x.p, x.cell), domain, e, x.want, x.e)
	}
}

// P6.2: MaxNum is the greatest number of a domain, although greater ones could be written.
func TestDomainToMaxNum(t *testing.T) {
	k := book(t)
	written, e := numeral.Write(ladderOf(t, k, "vast"), api.MaxNum)
	expectError(t, "Write", e, api.OK)
	p := on(t, "vast", texts("[...]"))
	groups := &p.Cells[0].Trace.Plus
	*groups = append(slices.Clone(written.Plus[:len(written.Plus)-1]), api.Group{Count: 1, Sign: "a", More: true})
	all, e := numeral.Candidates(ladderOf(t, k, "vast"), p.Cells[0].Trace, api.MaxNum, 60)
	if expectError(t, "Candidates", e, api.OK); len(all) < 2 || all[len(all)-1] != api.MaxNum || len(all) > 58 {
		t.Fatalf("numbers up to MaxNum: %v", all)
	}
	domain, e := broken.Domain(k, p, 0)
	expect(t, "Domain", domain, e, all, api.OK)
	found, e := broken.All(k, p, 100)
	expect(t, "All", len(found), e, len(all), api.OK)
}

// P6.2, P6.3, P6.4, P6.5: a puzzle is too open if it has too many choices, or a domain too many numbers.
func TestTooOpen(t *testing.T) {
	k := book(t)
	// twice two parts of a total, one of them bound: the domains have one number less than the totals
	twice := func(a, b string) api.Puzzle {
		return on(t, "tens", texts("[...]", "[...]", a, "[...]", "[...]", b), rule(2, 0, 1), rule(5, 3, 4))
	}
	most := twice("2(c) 5(b) 7(a)", "2(c) 5(b) 7(a)") // 256 times 256
	for _, x := range []struct {
		p    api.Puzzle
		want int
		e    api.Errno
	}{
		{most, 65536, api.OK}, {twice("2(c) 5(b) 7(a)", "2(c) 5(b) 8(a)"), 0, api.ErrLimit}, {twice("40(c) 9(b) 7(a)", "1(b) 7(a)"), 65536, api.OK}, {twice("40(c) 9(b) 7(a)", "1(b) 8(a)"), 0, api.ErrLimit},
		{twice("40(c) 9(b) 8(a)", "2(a)"), 0, api.ErrLimit}, {twice("40(c) 9(b) 8(a)", "1(a)"), 0, api.ErrLimit},
		// an empty domain leaves no choice, whatever the others are
		{twice("40(c) 9(b) 7(a)", "1(a)"), 0, api.OK}, {twice("1(a)", "40(c) 9(b) 7(a)"), 0, api.OK},
		{on(t, "lone", texts("[...]", "[...]", "[...]", "[...]", "[...]", "[...]", "[...]", "[...]", "[...]", "[...]", "1(zz) [...]")), 0, api.OK},
		{on(t, "lone", texts("1(zz) [...]", "[...]", "[...]", "[...]", "[...]", "[...]", "[...]", "[...]", "[...]", "[...]", "[...]")), 0, api.OK},
		{on(t, "lone", slices.Repeat(texts("[...]"), 64)), 0, api.ErrLimit}, {on(t, "lone", slices.Repeat(texts("99+(a)"), 64)), 1, api.OK},
	} {
		n, e := broken.Choices(k, x.p)
		expect(t, fmt.Sprint("Choices of ", x.p), n, e, x.want, x.e)
		v := slices.Repeat([]int{1}, len(x.p.Cells))
		for name, call := range calls(k, x.p, v, 2, 100, []api.Step{point()}) {
			if name == "Check" || name == "Is" || name == "Free" || name == "Domain" || name == "Prove" || name == "Verify" {
				continue
			}
			if got, e := call(); (e == api.ErrLimit) != (x.e == api.ErrLimit || name == "All" && x.want > 100) || e != api.OK && got != "" {
				t.Errorf("%s of %v: %.100s, error %d", name, x.p, got, e)
			}
		}
	}
	n, e := broken.Count(k, most)
	expect(t, "Count", n, e, 65536, api.OK)
	c, worst, e := broken.Ask(k, most)
	expect(t, "Ask", []int{c, worst}, e, []int{0, 256}, api.OK)
	l, e := broken.Narrow(k, most)
	expect(t, "Narrow", l, e, [][]int{upTo(1, 256), upTo(1, 256), {257}, upTo(1, 256), upTo(1, 256), {257}}, api.OK)
}
