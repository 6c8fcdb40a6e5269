package tablet_test

import (
	"fmt"
	"testing"

	"bulla/api"
	"bulla/tablet"
)

// memory is the memory of a list: how to overwrite it, also beyond its length, and what stands there.
type memory struct {
	spoil func()
	text  func() string
}

func memoryOf[T any](l []T, spoilt T, text func(T) string) memory {
	all := l[:cap(l)]
	return memory{
		func() {
			for i := range all {
				all[i] = spoilt
			}
		},
		func() string {
			s := ""
			for _, x := range all {
				s += text(x)
			}
			return s
		},
	}
}

func plain[T any](x T) string { return fmt.Sprint(x, ";") }

func memoryOfWords(l []api.Word) memory { return memoryOf(l, api.Word{Text: "spoilt"}, plain) }

func memoryOfNames(l []string) memory { return memoryOf(l, "spoilt", plain) }

func memoryOfNumbers(l []int) memory { return memoryOf(l, -7, plain) }

// memoriesOf returns the memories of all lists of a tablet.
func memoriesOf(t api.Tablet) []memory {
	own := func(c api.Case) string { return fmt.Sprint(c.Face, c.Column, c.Line, c.Kind, c.Good, ";") }
	l := []memory{memoryOf(t.Cases, api.Case{Good: "spoilt"}, own)}
	for _, c := range t.Cases {
		spoilt := api.Group{Count: 77, Sign: "spoilt"}
		l = append(l, memoryOf(c.Amount.Plus, spoilt, plain), memoryOf(c.Amount.Less, spoilt, plain), memoryOfWords(c.Words))
	}
	return l
}

// expectApart overwrites each list, and looks whether another one has changed.
func expectApart(t *testing.T, call string, l []memory) {
	t.Helper()
	for i, x := range l {
		var before []string
		for _, y := range l {
			before = append(before, y.text())
		}
		x.spoil()
		for j, y := range l {
			if i != j && y.text() != before[j] {
				t.Errorf("%s: the lists %d and %d share memory", call, i, j)
			}
		}
	}
}

// roomy returns a copy of a list with memory behind it.
func roomy[T any](l []T) []T { return append(make([]T, 0, len(l)+20), l...) }

// roomyTablet returns a tablet with memory behind each list.
func roomyTablet() api.Tablet {
	x := named("p1", roomy([]api.Case{note(1, 1, 1, "a [b] ... c#"), kind(2, entry(1, 3, 2, "2(n14) la2 1(n01)", "oil", "- [b]")), entry(2, 2, 2, "[...] 1(a)", "", "[a] [b]")})...)
	x.Cases = roomy(x.Cases)
	for i := range x.Cases {
		c := &x.Cases[i]
		c.Amount.Plus, c.Amount.Less, c.Words = roomy(c.Amount.Plus), roomy(c.Amount.Less), roomy(c.Words)
	}
	return x
}

// laterTablet returns one whose cases have greater places.
func laterTablet() api.Tablet {
	x := roomyTablet()
	for i := range x.Cases {
		x.Cases[i].Face += 2
	}
	return x
}

func textOf(l []memory) string {
	s := ""
	for _, x := range l {
		s += x.text() + "\n"
	}
	return s
}

// P4.9: arguments are only read.
func TestArguments(t *testing.T) {
	x, later := roomyTablet(), laterTablet()
	v, w, l := roomy(words("... a [b] - ... a")), roomy(words("a ... a")), roomy([]string{"a", "a", "b", "a", "a"})
	all := append(append(memoriesOf(x), memoriesOf(later)...), memoryOfWords(v), memoryOfWords(w), memoryOfNames(l))
	before := textOf(all)
	tablet.CheckWords(v)
	tablet.Check(x)
	tablet.Same(x, later)
	tablet.Print(x)
	tablet.Find(x, 1, 1, 1)
	tablet.Plan(x, 1)
	tablet.Count(x)
	tablet.Names(x)
	tablet.Where(x, "b")
	tablet.Legible(x)
	tablet.Renumber(x)
	tablet.Cut(x, 1)
	tablet.Append(x, later)
	tablet.Fits(v, l)
	tablet.Agree(v, w)
	tablet.Common(v, w)
	tablet.Restore(v, l)
	if after := textOf(all); after != before {
		t.Errorf("arguments were changed: %s; before: %s", after, before)
	}
}

// P4.9: results are new memory, of which no two lists share any.
func TestTablets(t *testing.T) {
	for range 2 { // what was spoilt in the first round must not be seen in the second one
		expectApart(t, "Parse", memoriesOf(parsed(t, sample)))
		x := roomyTablet()
		y, e := tablet.Legible(x)
		expect(t, "Legible", len(y.Cases), e, 3, api.OK)
		expectApart(t, "Legible", append(memoriesOf(y), memoriesOf(x)...))
		x = roomyTablet()
		y, e = tablet.Renumber(x)
		expect(t, "Renumber", len(y.Cases), e, 3, api.OK)
		expectApart(t, "Renumber", append(memoriesOf(y), memoriesOf(x)...))
		x = roomyTablet()
		y, z, e := tablet.Cut(x, 2)
		expect(t, "Cut", len(y.Cases), e, 2, api.OK)
		expectApart(t, "Cut", append(append(memoriesOf(y), memoriesOf(z)...), memoriesOf(x)...))
		x, later := roomyTablet(), laterTablet()
		y, e = tablet.Append(x, later)
		expect(t, "Append", len(y.Cases), e, 6, api.OK)
		expectApart(t, "Append", append(append(memoriesOf(y), memoriesOf(x)...), memoriesOf(later)...))
		for _, n := range []int{0, 3} {
			x = roomyTablet()
			y, z, _ = tablet.Cut(x, n)
			both, e := tablet.Append(y, z)
			expect(t, "Append", len(both.Cases), e, 3, api.OK)
			expectApart(t, "Append", append(append(memoriesOf(both), memoriesOf(y)...), memoriesOf(z)...))
		}
	}
}

// P4.9: so are lists of other kinds.
func TestLists(t *testing.T) {
	for range 2 {
		x := roomyTablet()
		plan, e := tablet.Plan(x, 1)
		expect(t, "Plan", plan, e, [][]int{{0, -1, -1}, {-1, -1, 1}}, api.OK)
		expectApart(t, "Plan", []memory{memoryOfNumbers(plan[0]), memoryOfNumbers(plan[1])})
		names, e := tablet.Names(x)
		expect(t, "Names", names, e, []string{"a", "b", "c"}, api.OK)
		expectApart(t, "Names", append(memoriesOf(x), memoryOfNames(names)))
		spots, e := tablet.Where(roomyTablet(), "c")
		expect(t, "Where", spots, e, []api.Spot{{Case: 0, Word: 3}}, api.OK)
		v, w, l := roomy(words("... a [b] - ... a")), roomy(words("a ... a")), roomy([]string{"a", "a", "b", "a", "a"})
		common, e := tablet.Common(v, w)
		expect(t, "Common", common, e, []string{"a", "a", "a", "a"}, api.OK)
		restored, e := tablet.Restore(v, l)
		expect(t, "Restore", restored, e, words("a [a] [b] [a] a"), api.OK)
		expectApart(t, "Restore", []memory{memoryOfWords(restored), memoryOfNames(common), memoryOfWords(v), memoryOfWords(w), memoryOfNames(l)})
		whole := roomy(words("a b# [c]"))
		restored, e = tablet.Restore(whole, []string{"a", "b", "c"})
		expect(t, "Restore", restored, e, words("a b# [c]"), api.OK)
		expectApart(t, "Restore", []memory{memoryOfWords(restored), memoryOfWords(whole)})
	}
}
