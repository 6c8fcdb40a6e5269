package broken_test

import (
	"fmt"
	"slices"
	"testing"

	"bulla/api"
	"bulla/broken"
)

// memory is the memory of a list: how to overwrite it, also beyond its length, and what stands there.
type memory struct {
	spoil func()
	text  func() string
}

func memoryOf[T any](l []T, spoilt T, text func(T) string) memory {
	all := l[:cap(l)]
	return memory{
		func() {
			for i := range all {
				all[i] = spoilt
			}
		},
		func() string {
			s := ""
			for _, x := range all {
				s += text(x)
			}
			return s
		},
	}
}

func plain[T any](x T) string { return fmt.Sprint(x, ";") }

func memoryOfNumbers(l []int) memory { return memoryOf(l, -7, plain) }

func memoryOfSteps(l []api.Step) memory { return memoryOf(l, api.Step{Kind: -7}, plain) }

func memoriesOfPuzzle(p api.Puzzle) []memory {
	cell := func(c api.Cell) string { return fmt.Sprint(c.Case, c.Good, c.Ladder, ";") }
	rule := func(r api.Rule) string { return fmt.Sprint(r.Total, ";") }
	l := []memory{memoryOf(p.Cells, api.Cell{Good: "spoilt"}, cell), memoryOf(p.Rules, api.Rule{Total: -7}, rule)}
	for _, c := range p.Cells {
		spoilt := api.Group{Count: 77, Sign: "spoilt"}
		l = append(l, memoryOf(c.Trace.Plus, spoilt, plain), memoryOf(c.Trace.Less, spoilt, plain))
	}
	for _, r := range p.Rules {
		l = append(l, memoryOfNumbers(r.Parts))
	}
	return l
}

// expectApart overwrites each list, and looks whether another one has changed.
func expectApart(t *testing.T, call string, l []memory) {
	t.Helper()
	for i, x := range l {
		var before []string
		for _, y := range l {
			before = append(before, y.text())
		}
		x.spoil()
		for j, y := range l {
			if i != j && y.text() != before[j] {
				t.Errorf("%s: the lists %d and %d share memory", call, i, j)
			}
		}
	}
}

// roomy returns a copy of a list with memory behind it.
func roomy[T any](l []T) []T { return append(make([]T, 0, len(l)+20), l...) }

// roomyPuzzle returns a puzzle with six completions, with memory behind each list.
func roomyPuzzle(t *testing.T) api.Puzzle {
	t.Helper()
	p := on(t, "count", texts("1+(n01)", "2+(n01)", "1(n14) la2 2(n01)", "3(n01)"), rule(2, 0, 1))
	p.Cells, p.Rules = roomy(p.Cells), roomy(p.Rules)
	for i := range p.Cells {
		n := &p.Cells[i].Trace
		n.Plus, n.Less = roomy(n.Plus), roomy(n.Less)
	}
	for i := range p.Rules {
		p.Rules[i].Parts = roomy(p.Rules[i].Parts)
	}
	return p
}

// P6.8: arguments are only read.
func TestArguments(t *testing.T) {
	k, p := book(t), roomyPuzzle(t)
	v := roomy([]int{1, 7, 8, 3})
	x, e := broken.Prove(k, p)
	expectError(t, "Prove", e, api.OK)
	x = roomy(x)
	all := append(memoriesOfPuzzle(p), memoryOfNumbers(v), memoryOfSteps(x))
	text := func() (s string) {
		for _, x := range all {
			s += x.text() + "\n"
		}
		return s
	}
	before := text()
	for name, call := range calls(k, p, v, 0, 100, x) {
		if got, e := call(); e != api.OK && name != "Only" || got == "" && e == api.OK && name != "Check" {
			t.Errorf("%s: %s, error %d", name, got, e)
		}
		if after := text(); after != before {
			t.Fatalf("%s changed its arguments: %s; before: %s", name, after, before)
		}
	}
}

// P6.8: results are new memory, of which no two lists share any.
func TestResults(t *testing.T) {
	k := book(t)
	want := [][]int{{1, 7, 8, 3}, {2, 6, 8, 3}, {3, 5, 8, 3}, {4, 4, 8, 3}, {5, 3, 8, 3}, {6, 2, 8, 3}}
	for range 2 { // what was spoilt in the first round must not be seen in the second one
		p := roomyPuzzle(t)
		l := memoriesOfPuzzle(p)
		free, e := broken.Free(k, p)
		expect(t, "Free", free, e, []int{0}, api.OK)
		domain, e := broken.Domain(k, p, 0)
		expect(t, "Domain", domain, e, upTo(1, 7), api.OK)
		value, e := broken.Domain(k, p, 2)
		expect(t, "Domain of a whole cell", value, e, []int{8}, api.OK)
		sure, e := broken.Sure(k, p)
		expect(t, "Sure", sure, e, []int{0, 0, 8, 3}, api.OK)
		tally, e := broken.Tally(k, p, 0)
		expect(t, "Tally", tally, e, once(1, 2, 3, 4, 5, 6), api.OK)
		proof, e := broken.Prove(k, p)
		expectError(t, "Prove", e, api.OK)
		left, e := broken.Verify(k, p, proof)
		expect(t, "Verify", left, e, want, api.OK)
		all, e := broken.All(k, p, 100)
		expect(t, "All", all, e, want, api.OK)
		numbers, e := broken.Narrow(k, p)
		expect(t, "Narrow", numbers, e, [][]int{upTo(1, 6), upTo(2, 7), {8}, {3}}, api.OK)
		for _, v := range slices.Concat(left, all, numbers) {
			l = append(l, memoryOfNumbers(v))
		}
		l = append(l, memoryOfNumbers(free), memoryOfNumbers(domain), memoryOfNumbers(value), memoryOfNumbers(sure), memoryOf(tally, api.Tally{N: -7}, plain), memoryOfSteps(proof))
		expectApart(t, "results", l)
		own := func(v []int) string { return fmt.Sprint(len(v), ";") }
		expectApart(t, "results", append(l, memoryOf(left, nil, own), memoryOf(all, nil, own), memoryOf(numbers, nil, own)))
	}
	p := roomyPuzzle(t)
	p.Cells[0].Trace = amount(t, "2(n01)")
	only, e := broken.Only(k, p)
	expect(t, "Only", only, e, []int{2, 6, 8, 3}, api.OK)
	expectApart(t, "Only", append(memoriesOfPuzzle(p), memoryOfNumbers(only)))
}
