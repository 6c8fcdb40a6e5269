package broken_test

import (
	"slices"
	"testing"
	"time"

	"bulla/api"
	"bulla/broken"
)

// expectSoon fails if a call takes far longer than it should.
func expectSoon(t *testing.T, call string, do func()) {
	t.Helper()
	start := time.Now()
	do()
	if took := time.Since(start); took > 10*time.Second {
		t.Errorf("%s took %v", call, took)
	}
}

// sums returns a puzzle of some items on the ladder vast, and of their sum again and again, up to 64 cells.
func sums(t *testing.T, items []string, total string) api.Puzzle {
	t.Helper()
	cells := slices.Clone(items)
	var rules []api.Rule
	for i := len(items); i < api.MaxCells; i++ {
		cells, rules = append(cells, total), append(rules, rule(i, upTo(0, len(items)-1)...))
	}
	return on(t, "vast", cells, rules...)
}

// P6.3, P6.4, P6.5: the greatest puzzles that are not too open.
func TestLargePuzzles(t *testing.T) {
	k := book(t)
	binary := sums(t, slices.Repeat(texts("1(g) 58+(a)"), 16), "[...]")
	apart := sums(t, texts("44+(a)", "44+(b)", "44+(c)", "44+(d)"), "[...]")
	for _, x := range []struct {
		p     api.Puzzle
		cell  int
		worst int
	}{{binary, 16, 12870}, {apart, 4, 1}} {
		expectSoon(t, "Count", func() {
			n, e := broken.Count(k, x.p)
			expect(t, "Count", n, e, 65536, api.OK)
		})
		expectSoon(t, "Ask", func() {
			cell, worst, e := broken.Ask(k, x.p)
			expect(t, "Ask", []int{cell, worst}, e, []int{x.cell, x.worst}, api.OK)
		})
		expectSoon(t, "Narrow", func() {
			l, e := broken.Narrow(k, x.p)
			expect(t, "Narrow", len(l), e, 64, api.OK)
		})
		expectSoon(t, "Sure", func() {
			l, e := broken.Sure(k, x.p)
			expect(t, "Sure", l, e, make([]int, 64), api.OK)
		})
		expectSoon(t, "Tally", func() {
			l, e := broken.Tally(k, x.p, 63)
			sum := 0
			for _, y := range l {
				sum += y.Count
			}
			expect(t, "the Counts of Tally", sum, e, 65536, api.OK)
		})
		expectSoon(t, "All", func() {
			l, e := broken.All(k, x.p, api.MaxFound)
			expect(t, "All", l, e, nil, api.ErrLimit)
		})
	}
}

// P6.6: rounds that narrow ranges only a little come to an end, as the proof is too long.
func TestSlowProofs(t *testing.T) {
	k := book(t)
	items := slices.Repeat(texts("[...]"), 32)
	many := sums(t, items, "20(g)")
	many.Cells[63].Trace = amount(t, "20(g) 1(a)")
	few := many
	few.Rules = slices.Clone(many.Rules)
	for i := range few.Rules {
		few.Rules[i].Parts = []int{min(i, 30), min(i, 30) + 1}
	}
	for _, p := range []api.Puzzle{many, few} {
		expectSoon(t, "Prove", func() {
			proof, e := broken.Prove(k, p)
			expect(t, "Prove", proof, e, nil, api.ErrLimit)
		})
	}
}
