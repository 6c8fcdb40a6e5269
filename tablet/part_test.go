package tablet_test

import (
	"slices"
	"testing"

	"bulla/api"
	"bulla/tablet"
)

// P4.6
func TestLegible(t *testing.T) {
	want := sampleTablet()
	want.Cases[1].Words = words("... -")
	for _, x := range []struct{ t, want api.Tablet }{
		{sampleTablet(), want}, {named("a"), named("a")}, {notes(3), notes(3)},
		{named("a", note(1, 2, 3, "[a] a a# - ... [b] [c] ...")), named("a", note(1, 2, 3, "- a a# - ... - - ..."))}, {named("a", entry(6, 2, 3, "2(b) la2 1(c)", "d", "[a]")), named("a", entry(6, 2, 3, "2(b) la2 1(c)", "d", "-"))},
	} {
		got, e := tablet.Legible(x.t)
		expect(t, "Legible", got, e, x.want, api.OK)
	}
	for _, x := range someInvalid() {
		got, e := tablet.Legible(x.t)
		expectZero(t, "Legible", got, e, x.e)
	}
}

// P4.6
func TestRenumber(t *testing.T) {
	want := sampleTablet()
	want.Cases[2].Column = 2
	for _, x := range []struct{ t, want api.Tablet }{
		{sampleTablet(), want}, {named("a"), named("a")}, {named("a", note(5, 12, 99, "a")), named("a", note(5, 1, 1, "a"))},
		{named("a", note(1, 2, 3, "a"), note(1, 2, 7, "b"), note(1, 5, 7, "c"), note(2, 5, 8, "d"), note(2, 5, 9, "e"), note(2, 12, 1, "f"), note(6, 12, 2, "g")),
			named("a", note(1, 1, 1, "a"), note(1, 1, 2, "b"), note(1, 2, 1, "c"), note(2, 1, 1, "d"), note(2, 1, 2, "e"), note(2, 2, 1, "f"), note(6, 1, 1, "g"))},
		{named("a", kind(2, entry(3, 3, 3, "2(b) la2 1(c)", "d", "[a] ..."))), named("a", kind(2, entry(3, 1, 1, "2(b) la2 1(c)", "d", "[a] ...")))},
	} {
		got, e := tablet.Renumber(x.t)
		expect(t, "Renumber", got, e, x.want, api.OK)
	}
	for _, x := range someInvalid() {
		got, e := tablet.Renumber(x.t)
		expectZero(t, "Renumber", got, e, x.e)
	}
}

// P4.11: renumbering keeps the order and the neighbours in every column, and done twice it is the same as once.
func TestRenumberTwice(t *testing.T) {
	random := newRandom()
	for range 300 {
		x := someTablet(random, 60)
		y, e := tablet.Renumber(x)
		again, f := tablet.Renumber(y)
		if e != api.OK || f != api.OK || tablet.Check(y) != api.OK || !tablet.Same(y, again) || len(y.Cases) != len(x.Cases) {
			t.Fatalf("Renumber(%s): %s, errors %d %d", show(x), show(y), e, f)
		}
		for i := range y.Cases {
			c, d := x.Cases[i], y.Cases[i]
			column, line := 1, 1
			if i > 0 && c.Face == x.Cases[i-1].Face {
				column = y.Cases[i-1].Column
				if c.Column == x.Cases[i-1].Column {
					line = y.Cases[i-1].Line + 1
				} else {
					column++
				}
			}
			c.Column, c.Line = column, line
			if show(c) != show(d) {
				t.Fatalf("Renumber(%s): the case %d is %s; want %s", show(x), i, show(d), show(c))
			}
		}
	}
}

// P4.6
func TestCut(t *testing.T) {
	x := sampleTablet()
	for n := 0; n <= 4; n++ {
		a, b, e := tablet.Cut(x, n)
		expect(t, "Cut", a, e, named("p1", x.Cases[:n]...), api.OK)
		expect(t, "Cut", b, e, named("p1", x.Cases[n:]...), api.OK)
	}
	a, b, e := tablet.Cut(named("a"), 0)
	expect(t, "Cut", a, e, named("a"), api.OK)
	expect(t, "Cut", b, e, named("a"), api.OK)
	for _, n := range []int{-1, 5, 256, mostInt, leastInt} {
		a, b, e := tablet.Cut(x, n)
		expectZero(t, "Cut", a, e, api.ErrRange)
		expectZero(t, "Cut", b, e, api.ErrRange)
		for _, y := range someInvalid() {
			a, b, e := tablet.Cut(y.t, n)
			expectZero(t, "Cut", a, e, y.e)
			expectZero(t, "Cut", b, e, y.e)
		}
	}
}

// P4.6
func TestAppend(t *testing.T) {
	x := sampleTablet()
	for _, y := range []struct{ a, b, want api.Tablet }{
		{named("a"), named("b"), named("a")}, {named("a"), x, named("a", x.Cases...)}, {x, named("b"), x}, {x, named("a", note(2, 1, 2, "")), named("p1", append(slices.Clone(x.Cases), note(2, 1, 2, ""))...)},
		{named("a", note(1, 12, 99, "a")), named("b", note(2, 1, 1, "b"), note(2, 1, 2, "c")), named("a", note(1, 12, 99, "a"), note(2, 1, 1, "b"), note(2, 1, 2, "c"))},
		{named("a", note(1, 1, 99, "")), named("a", note(1, 2, 1, "")), named("a", note(1, 1, 99, ""), note(1, 2, 1, ""))},
	} {
		got, e := tablet.Append(y.a, y.b)
		expect(t, "Append", got, e, y.want, api.OK)
	}
	many := notes(256)
	for n := 0; n <= 256; n += 32 {
		got, e := tablet.Append(named("a", many.Cases[:n]...), named("b", many.Cases[n:]...))
		expect(t, "Append", got, e, named("a", many.Cases...), api.OK)
	}
}

// P4.6: the errors of Append, in their order.
func TestAppendErrors(t *testing.T) {
	many := notes(256)
	for _, y := range []struct {
		a, b api.Tablet
		e    api.Errno
	}{
		{many, named("b", note(6, 1, 1, "")), api.ErrLimit}, {many, named("b", note(1, 1, 1, "")), api.ErrLimit}, {named("b", note(1, 1, 1, "")), many, api.ErrLimit}, {many, many, api.ErrLimit},
		{sampleTablet(), sampleTablet(), api.ErrSequence}, {named("a", note(1, 1, 1, "")), named("a", note(1, 1, 1, "")), api.ErrSequence}, {named("a", note(1, 1, 2, "")), named("a", note(1, 1, 1, ""), note(1, 1, 3, "")), api.ErrSequence}, {named("a", note(1, 2, 1, "")), named("a", note(1, 1, 2, "")), api.ErrSequence}, {named("a", note(2, 1, 1, "")), named("a", note(1, 2, 2, "")), api.ErrSequence},
	} {
		got, e := tablet.Append(y.a, y.b)
		expectZero(t, "Append", got, e, y.e)
	}
	for _, x := range someInvalid() {
		for _, y := range []api.Tablet{named("a"), many, named("a", note(6, 1, 1, ""))} {
			got, e := tablet.Append(x.t, y)
			expectZero(t, "Append", got, e, x.e)
			got, e = tablet.Append(y, x.t)
			expectZero(t, "Append", got, e, x.e)
		}
		for _, y := range someInvalid() {
			got, e := tablet.Append(x.t, y.t)
			expectZero(t, "Append", got, e, x.e)
		}
	}
}

// P4.12: what was cut is the original again when it is appended.
func TestCutAppend(t *testing.T) {
	random := newRandom()
	for range 200 {
		x := someTablet(random, 40)
		for n := range len(x.Cases) + 1 {
			a, b, e := tablet.Cut(x, n)
			y, f := tablet.Append(a, b)
			if e != api.OK || f != api.OK || !tablet.Same(x, y) || show(x) != show(y) || len(a.Cases) != n {
				t.Fatalf("Cut(%s, %d): %s and %s, errors %d %d", show(x), n, show(a), show(b), e, f)
			}
		}
	}
}
