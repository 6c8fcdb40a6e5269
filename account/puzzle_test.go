package account_test

import (
	"fmt"
	"slices"
	"testing"

	"bulla/account"
	"bulla/api"
	"bulla/metro"
)

// changed returns a puzzle with one of its cells changed.
func changed(p api.Puzzle, cell int, change func(c *api.Cell)) api.Puzzle {
	p.Cells = slices.Clone(p.Cells)
	change(&p.Cells[cell])
	return p
}

func ruled(p api.Puzzle, rules ...api.Rule) api.Puzzle {
	p.Rules = rules
	return p
}

type badPuzzle struct {
	p api.Puzzle
	e api.Errno
}

// badPuzzles are puzzles with the first error that they have.
func badPuzzles() []badPuzzle {
	p := puzzle(5, "count", rule(2, 0, 1), rule(4, 0, 3))
	none := func(c *api.Cell) { c.Ladder = "none" }
	noGood := func(c *api.Cell) { c.Good = "" }
	noTrace := func(c *api.Cell) { c.Trace = api.Numeral{} }
	bad := rule(7)
	l := []badPuzzle{
		{puzzle(65, "none"), api.ErrLimit},
		{puzzle(64, "count", slices.Repeat([]api.Rule{rule(-1)}, 65)...), api.ErrLimit},
		{changed(p, 1, none), api.ErrNone}, {changed(changed(p, 1, none), 2, noGood), api.ErrNone}, {changed(changed(p, 2, none), 1, noGood), api.ErrPuzzle},
		{changed(changed(p, 1, none), 1, noGood), api.ErrPuzzle}, {changed(changed(p, 1, none), 1, noTrace), api.ErrNone},
		{changed(p, 4, noTrace), api.ErrForm}, {changed(ruled(p, bad), 4, noTrace), api.ErrForm}, {changed(ruled(p, bad), 4, none), api.ErrNone},
		{changed(p, 3, func(c *api.Cell) { c.Trace = api.Numeral{Plus: []api.Group{{Count: 1, Sign: "N"}}} }), api.ErrSign},
		{changed(p, 3, func(c *api.Cell) {
			c.Trace = api.Numeral{Plus: []api.Group{{}}, Less: []api.Group{{Count: 1, Sign: "n"}}}
		}), api.ErrDamage},
		{changed(p, 3, func(c *api.Cell) { c.Ladder = "" }), api.ErrNone},
	}
	for _, name := range notNames() {
		l = append(l, badPuzzle{changed(p, 3, func(c *api.Cell) { c.Good = name }), api.ErrPuzzle})
	}
	for _, n := range []int{-1, leastInt, 256, mostInt, 2, 1} {
		l = append(l, badPuzzle{changed(p, 3, func(c *api.Cell) { c.Case = n }), api.ErrPuzzle})
	}
	l = append(l, badPuzzle{changed(p, 0, func(c *api.Cell) { c.Case = -1 }), api.ErrPuzzle}, badPuzzle{changed(p, 4, func(c *api.Cell) { c.Case = 256 }), api.ErrPuzzle})
	for _, r := range [][]api.Rule{
		{rule(5)}, {rule(-1)}, {rule(mostInt)}, {rule(leastInt)}, {rule(4, 5)}, {rule(4, -1)}, {rule(4, -1, 0)}, {rule(4, 0, 0)}, {rule(4, 1, 0)}, {rule(4, 0, 2, 1)}, {rule(4, 0, mostInt)}, {rule(4, leastInt, 0)},
		{rule(4), rule(4)}, {rule(4, 0), rule(4, 0)}, {rule(4, 4)}, {rule(0, 0)}, {rule(4, 0, 1), rule(1)}, {rule(1), rule(4, 0, 1)}, {rule(3, 0), rule(4, 3)}, {rule(3, 0), rule(4, 1, 2, 3)},
		{rule(2, 0, 1), rule(3, 0, 1), rule(2, 0)}, {rule(4, 0, 1, 2, 3, 3)}, {rule(4, 0, 1, 2, 3, 4)},
	} {
		l = append(l, badPuzzle{ruled(p, r...), api.ErrPuzzle})
	}
	grain := func(c *api.Cell) { c.Ladder = "grain" }
	for _, i := range []int{0, 1, 2, 3, 4} {
		l = append(l, badPuzzle{changed(p, i, grain), api.ErrPuzzle})
	}
	return append(l, badPuzzle{changed(changed(p, 0, grain), 1, grain), api.ErrPuzzle})
}

// goodPuzzles are valid ones.
func goodPuzzles() []api.Puzzle {
	grain := func(c *api.Cell) { c.Ladder = "grain" }
	var sums []api.Rule
	for i := range 64 {
		sums = append(sums, rule(63-i))
	}
	apart := puzzle(5, "count", rule(4, 0), rule(3, 1, 2))
	for _, i := range []int{1, 2, 3} {
		apart = changed(apart, i, grain)
	}
	return []api.Puzzle{
		{}, puzzle(1, "count"), puzzle(1, "count", rule(0)), puzzle(64, "weight"), puzzle(64, "weight", sums...), puzzle(5, "count", rule(2, 0, 1), rule(4, 0, 3)),
		puzzle(3, "area", rule(1, 0, 2)), puzzle(3, "area", rule(0, 1, 2)), puzzle(4, "count", rule(3, 1, 2), rule(0, 2)), puzzle(4, "count", rule(2, 0, 1), rule(3, 0, 1)), apart,
		changed(puzzle(3, "count"), 2, func(c *api.Cell) { c.Case = 255 }), changed(puzzle(3, "count"), 1, func(c *api.Cell) { c.Good = longest }),
		changed(puzzle(3, "count"), 1, func(c *api.Cell) { c.Trace = api.Numeral{Plus: []api.Group{{}, {Count: 99, Sign: "zz", More: true}}} }),
	}
}

// P5.4: CheckPuzzle.
func TestCheckPuzzle(t *testing.T) {
	k := book(t)
	for _, p := range append(goodPuzzles(), samplePuzzle(t, k)) {
		expectError(t, fmt.Sprintf("CheckPuzzle(%.300s)", show(p)), account.CheckPuzzle(k, p), api.OK)
	}
	for _, x := range badPuzzles() {
		expectError(t, fmt.Sprintf("CheckPuzzle(%.300s, %v)", show(x.p.Cells), x.p.Rules), account.CheckPuzzle(k, x.p), x.e)
	}
	empty, e := metro.NewBook(nil, nil)
	expectError(t, "NewBook", e, api.OK)
	expectError(t, "no cells without ladders", account.CheckPuzzle(empty, api.Puzzle{}), api.OK)
	expectError(t, "cells without ladders", account.CheckPuzzle(empty, puzzle(1, "count")), api.ErrNone)
}

// P5.5, P5.6, P5.8, P5.9: the errors of the puzzle come before those of all else.
func TestBadPuzzles(t *testing.T) {
	k := book(t)
	for _, x := range badPuzzles() {
		v, e := account.Read(k, x.p)
		expectZero(t, "Read", v, e, x.e)
		for _, v := range [][]int{nil, {0}, slices.Repeat([]int{1}, len(x.p.Cells))} {
			for name, call := range valued(k, x.p, v) {
				if got, e := call(); got != "" || e != x.e {
					t.Errorf("%s of %v, %v: %s, error %d; want %d", name, x.p, v, got, e, x.e)
				}
			}
		}
	}
}

// P5.6, P5.8, P5.9: numbers that are no values.
func TestBadValues(t *testing.T) {
	k := book(t)
	p := samplePuzzle(t, k)
	bad := [][]int{nil, {1}, sampleValues()[1:], append(sampleValues(), 1), slices.Repeat(sampleValues(), 200)}
	for i := range sampleValues() {
		for _, n := range []int{0, -1, api.MaxNum + 1, mostInt, leastInt} {
			v := sampleValues()
			v[i] = n
			bad = append(bad, v)
		}
	}
	for _, v := range bad {
		for name, call := range valued(k, p, v) {
			if got, e := call(); got != "" || e != api.ErrValue {
				t.Errorf("%s with %v: %s, error %d", name, v, got, e)
			}
		}
	}
}

// P5.5: Read.
func TestRead(t *testing.T) {
	k := book(t)
	read := func(texts ...string) ([]int, api.Errno) {
		p := puzzle(len(texts), "grain", rule(0))
		for i, s := range texts {
			p.Cells[i].Trace = amount(t, s)
		}
		return account.Read(k, p)
	}
	for _, x := range []struct {
		texts []string
		want  []int
		e     api.Errno
	}{
		{texts: []string{"1(n39)"}, want: []int{1}},
		{texts: []string{"3(n14) 2(n01)", "2(n14) la2 1(n01)", "99(n39)"}, want: []int{100, 55, 99}},
		{texts: []string{"3(n14)", "3+(n14)", "1(zz)"}, e: api.ErrDamage},
		{texts: []string{"3(n14)", "1(zz)", "[...]"}, e: api.ErrUnit},
		{texts: []string{"1(n39) 1(n14)", "1(zz)"}, e: api.ErrUnordered},
		{texts: []string{"3(n14)", "1(n01) la2 5(n39)"}, e: api.ErrLess},
	} {
		v, e := read(x.texts...)
		expect(t, fmt.Sprint("Read of ", x.texts), v, e, x.want, x.e)
	}
	v, e := account.Read(k, api.Puzzle{})
	expect(t, "Read of no cells", v, e, nil, api.OK)
	// each cell is read on its own ladder
	p := changed(puzzle(2, "count"), 1, func(c *api.Cell) { c.Ladder = "grain" })
	v, e = account.Read(k, p)
	expect(t, "Read of two ladders", v, e, []int{1, 5}, api.OK)
}

// P5.6: Sums and Wrong.
func TestSumsAndWrong(t *testing.T) {
	k := book(t)
	for _, x := range []struct {
		p           api.Puzzle
		v           []int
		sums, wrong []int
		e           api.Errno
	}{
		{p: samplePuzzle(t, k), v: sampleValues(), sums: []int{7, 90, 9}, wrong: []int{2}},
		{},
		{p: puzzle(2, "count"), v: []int{1, api.MaxNum}},
		{p: puzzle(1, "count", rule(0)), v: []int{1}, sums: []int{0}, wrong: []int{0}},
		{p: puzzle(3, "count", rule(2, 0, 1)), v: []int{api.MaxNum - 1, 1, api.MaxNum}, sums: []int{api.MaxNum}},
		{p: puzzle(3, "count", rule(2, 0, 1)), v: []int{api.MaxNum, 1, api.MaxNum}, e: api.ErrBig, wrong: []int{0}},
		{p: puzzle(5, "count", rule(4, 0), rule(2, 0, 1), rule(3, 1)), v: []int{api.MaxNum, 1, 5, 1, api.MaxNum}, e: api.ErrBig, wrong: []int{1}},
		{p: puzzle(5, "count", rule(4, 0), rule(2, 0, 1), rule(3, 1)), v: []int{7, 1, 5, 2, 8}, sums: []int{7, 8, 1}, wrong: []int{0, 1, 2}},
		{p: puzzle(5, "count", rule(4, 0), rule(2, 0, 1), rule(3, 1)), v: []int{7, 1, 8, 1, 7}, sums: []int{7, 8, 1}},
	} {
		sums, e := account.Sums(k, x.p, x.v)
		expect(t, fmt.Sprint("Sums of ", x.v), sums, e, x.sums, x.e)
		wrong, e := account.Wrong(k, x.p, x.v)
		expect(t, fmt.Sprint("Wrong of ", x.v), wrong, e, x.wrong, api.OK)
	}
	var all []int
	for i := range 63 {
		all = append(all, i)
	}
	p, v := puzzle(64, "count", rule(63, all...)), slices.Repeat([]int{api.MaxNum}, 64)
	sums, e := account.Sums(k, p, v)
	expectZero(t, "Sums of the greatest values", sums, e, api.ErrBig)
	wrong, e := account.Wrong(k, p, v)
	expect(t, "Wrong of the greatest values", wrong, e, []int{0}, api.OK)
}
