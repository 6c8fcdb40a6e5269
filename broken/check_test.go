package broken_test

import (
	"fmt"
	"slices"
	"testing"

	"bulla/api"
	"bulla/broken"
	"bulla/metro"
)

// changed returns a puzzle with one of its cells changed.
func changed(p api.Puzzle, cell int, change func(c *api.Cell)) api.Puzzle {
	p.Cells = slices.Clone(p.Cells)
	change(&p.Cells[cell])
	return p
}

func ruled(p api.Puzzle, rules ...api.Rule) api.Puzzle {
	p.Rules = rules
	return p
}

type badPuzzle struct {
	p api.Puzzle
	e api.Errno
}

// badPuzzles are puzzles with the first error that they have.
func badPuzzles(t *testing.T) []badPuzzle {
	t.Helper()
	p := on(t, "count", texts("1(n01)", "2+(n01)", "[...]", "4(n14)", "1(n14) la2 1(n01)"), rule(2, 0, 1), rule(4, 0, 3))
	many := p
	for len(many.Cells) < 65 {
		many.Cells = append(many.Cells, p.Cells[0])
	}
	none := func(c *api.Cell) { c.Ladder = "none" }
	noGood := func(c *api.Cell) { c.Good = "" }
	sameCase := func(c *api.Cell) { c.Case = 0 }
	unread := func(s string) func(c *api.Cell) {
		return func(c *api.Cell) { c.Trace = amount(t, s) }
	}
	noTrace := func(c *api.Cell) { c.Trace = api.Numeral{} }
	sign := unread("1(zz)")
	return []badPuzzle{
		{many, api.ErrLimit}, {ruled(p, slices.Repeat([]api.Rule{rule(-1)}, 65)...), api.ErrLimit},
		{changed(p, 1, none), api.ErrNone}, {changed(p, 1, noGood), api.ErrPuzzle}, {changed(p, 1, sameCase), api.ErrPuzzle},
		{changed(p, 1, noTrace), api.ErrForm}, {ruled(p, rule(5)), api.ErrPuzzle}, {ruled(p, rule(1, 1)), api.ErrPuzzle}, {ruled(p, rule(2, 0), rule(2, 1)), api.ErrPuzzle}, {ruled(p, rule(2, 1, 0)), api.ErrPuzzle}, {ruled(p, rule(2, 0), rule(4, 2)), api.ErrPuzzle},
		{ruled(changed(p, 0, func(c *api.Cell) { c.Ladder = "bisex" }), rule(2, 0, 1)), api.ErrPuzzle},
		// whole cells that cannot be read, in their order, after all errors of the puzzle
		{changed(p, 0, sign), api.ErrUnit}, {changed(p, 3, unread("1(n01) 1(n14)")), api.ErrUnordered}, {changed(p, 4, unread("1(n01) la2 1(n01)")), api.ErrLess},
		{changed(p, 4, unread("1(n14) la2 1(n01) 1(n14)")), api.ErrUnordered}, {changed(p, 4, unread("1(n14) la2 1(zz)")), api.ErrUnit},
		{changed(changed(p, 0, sign), 3, unread("1(n01) 1(n14)")), api.ErrUnit}, {changed(changed(p, 0, unread("1(n01) 1(n14)")), 3, sign), api.ErrUnordered},
		{changed(changed(p, 0, sign), 4, none), api.ErrNone}, {changed(changed(p, 0, sign), 4, noTrace), api.ErrForm}, {ruled(changed(p, 0, sign), rule(5)), api.ErrPuzzle},
		{puzzle(t, texts("vast 99(g)")), api.ErrBig}, {puzzle(t, texts("vast 1+(zz)", "vast 99(g)")), api.ErrBig},
	}
}

// goodPuzzles are puzzles without errors; what is damaged need not be on its ladder.
func goodPuzzles(t *testing.T) []api.Puzzle {
	t.Helper()
	return []api.Puzzle{
		{}, sampleP(t), sampleQ(t, "[...]"), sampleQ(t, "2(n01)"), on(t, "count", texts("1+(zz)", "1+(n01) 1(n14)", "99+(n01)", "[...] 1(zz)")),
		on(t, "count", texts("1(n01)", "5(n01)"), rule(1, 0)), on(t, "count", texts("1(n01)"), rule(0)), on(t, "vast", texts("23(g)", "1+(g)")),
	}
}

// P6.1: Check.
func TestCheck(t *testing.T) {
	k := book(t)
	for _, p := range goodPuzzles(t) {
		expectError(t, fmt.Sprint("Check of ", p), broken.Check(k, p), api.OK)
	}
	for _, x := range badPuzzles(t) {
		expectError(t, fmt.Sprint("Check of ", x.p), broken.Check(k, x.p), x.e)
	}
}

// P6.1: all functions return the error of Check first, and nothing else.
func TestCheckFirst(t *testing.T) {
	k := book(t)
	x := badPuzzles(t)
	for _, none := range []*metro.Book{nil, {}} {
		for name, call := range calls(none, x[0].p, nil, -1, 0, make([]api.Step, 20001)) {
			if got, e := call(); got != "" || e != api.ErrNil {
				t.Errorf("%s without a book: %s, error %d", name, got, e)
			}
		}
	}
	for _, bad := range x {
		for name, call := range calls(k, bad.p, nil, -1, 0, make([]api.Step, 20001)) {
			if got, e := call(); got != "" || e != bad.e {
				t.Errorf("%s of %v: %s, error %d; want %d", name, bad.p, got, e, bad.e)
			}
		}
		for name, call := range calls(k, bad.p, slices.Repeat([]int{1}, len(bad.p.Cells)), 0, 1, []api.Step{point()}) {
			if got, e := call(); got != "" || e != bad.e {
				t.Errorf("%s of %v: %s, error %d; want %d", name, bad.p, got, e, bad.e)
			}
		}
	}
}

// P6.2: Is.
func TestIs(t *testing.T) {
	k := book(t)
	r := sampleQ(t, "8(n01)")
	least := on(t, "vast", texts("[...]", "[...]", "[...]"), rule(2, 0, 1))
	for _, x := range []struct {
		p    api.Puzzle
		v    []int
		want bool
	}{
		{r, []int{1, 7, 8}, true}, {r, []int{6, 2, 8}, true}, {r, []int{4, 4, 8}, true},
		{r, []int{7, 1, 8}, false}, {r, []int{1, 7, 9}, false}, {r, []int{2, 7, 9}, false}, {r, []int{2, 7, 8}, false}, {r, []int{0, 8, 8}, false}, {r, []int{10, -2, 8}, false}, {r, []int{-2, 10, 8}, false},
		{r, nil, false}, {r, []int{1, 7}, false}, {r, []int{1, 7, 8, 1}, false}, {r, []int{leastInt, mostInt, 8}, false}, {r, []int{mostInt, mostInt, mostInt}, false},
		{least, []int{api.MaxNum - 1, 1, api.MaxNum}, true}, {least, []int{api.MaxNum, 1, api.MaxNum + 1}, false}, {least, []int{1, 1, 2}, true}, {least, []int{0, 1, 1}, false}, {least, []int{0, 0, 0}, false},
		{api.Puzzle{}, nil, true}, {api.Puzzle{}, []int{}, true}, {api.Puzzle{}, []int{1}, false},
		{sampleP(t), []int{60, 13, 4, 60, 17, 120}, true}, {sampleP(t), []int{60, 13, 4, 30, 17, 90}, false},
		// a whole amount stands for its value alone, also if its numeral is not canonical
		{on(t, "count", texts("2(n14) la2 1(n01)")), []int{19}, true}, {on(t, "count", texts("2(n14) la2 1(n01)")), []int{21}, false}, {on(t, "count", texts("99(n50) 99(n14)")), []int{3564990}, true}, {on(t, "count", texts("99(n50) 99(n45)")), []int{3920400}, true},
		{on(t, "count", texts("12(n01)")), []int{12}, true}, {on(t, "count", texts("12+(n01)")), []int{12}, false},
		// a rule without parts never holds
		{on(t, "count", texts("1(n01)"), rule(0)), []int{1}, false}, {on(t, "count", texts("[...]"), rule(0)), []int{1}, false}, {on(t, "count", texts("[...]"), rule(0)), []int{0}, false},
	} {
		is, e := broken.Is(k, x.p, x.v)
		expect(t, fmt.Sprint("Is of ", x.p, x.v), is, e, x.want, api.OK)
	}
}

// P6.2: a number is a completion of a single cell if and only if it fits.
func TestFits(t *testing.T) {
	k, random := book(t), newRandom()
	for _, s := range texts(
		"count [...]", "count 3+(n14)", "count 1(n34) [...]", "count [...] 1(n34)", "count 1(n48) [...] 2(n01)", "count 2+(n48) [...] 3+(n01) [...]", "count [...] 9(n50) [...] 5+(n14)", "count 6+(n14)", "count 98+(n50)", "count [...] 5+(n34) 5+(n14)", "count 1(n01) [...]", "count [...] 1(zz)", "count 1+(n01) 1+(n14)", "count [...] 1(n01) [...]",
		"mixed [...]", "mixed 2+(d)", "mixed [...] 1(c)", "mixed 1(d) [...] 1(a)", "mixed 4+(c)", "mixed 1+(a)", "mixed 2+(a)", "mixed 3+(c) 1(b)", "lone 90+(a)", "lone [...]", "lone [...] 1(a)", "vast 23+(g) [...]", "vast [...] 59(c) [...]", "grain 1(n45) [...] 4+(n39)", "twos [...] 1(b) [...]", "twos 1(d) 1(c) 1+(b)",
	) {
		p := puzzle(t, texts(s))
		for i := range 500 {
			n := pick(random, 1+i, 1+random.IntN(4000), 1+random.IntN(api.MaxNum), api.MaxNum-i)
			is, e := broken.Is(k, p, []int{n})
			expect(t, fmt.Sprint("Is of ", s, " and ", n), is, e, fits(t, k, p.Cells[0], n), api.OK)
		}
	}
}
