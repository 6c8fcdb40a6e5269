package tablet_test

import (
	"slices"
	"strings"
	"testing"

	"bulla/api"
	"bulla/tablet"
)

// P4.1
func TestCheckWords(t *testing.T) {
	for _, w := range [][]api.Word{
		nil, {}, words("a"), words("a#"), words("[a]"), words("-"), words("..."), words("- -"), words("... a ..."), words("... - ... [a] ..."), words(longest + " " + longest + "# [" + longest + "]"), words("a_9 z0#"),
		slices.Repeat(words("a"), 16), slices.Repeat(words("... -"), 8), slices.Repeat(words("- ..."), 8),
	} {
		if e := tablet.CheckWords(w); e != api.OK {
			t.Errorf("CheckWords(%s): error %d", show(w), e)
		}
	}
	for _, w := range invalidWords() {
		if e := tablet.CheckWords(w); e != api.ErrWords {
			t.Errorf("CheckWords(%s): error %d", show(w), e)
		}
	}
}

func expectCheck(t *testing.T, x api.Tablet, e api.Errno) {
	t.Helper()
	if got := tablet.Check(x); got != e {
		t.Errorf("Check(%.300s): error %d; want %d", show(x), got, e)
	}
}

// P4.1
func TestCheck(t *testing.T) {
	full := note(6, 12, 99, strings.Repeat("- ... ", 8))
	for _, x := range []api.Tablet{
		named("p1"), named(longest), sampleTablet(), notes(256), named("a", full), named("a", note(1, 1, 1, ""), full), named("a", entry(3, 4, 5, "[...]", "", "")), named("a", entry(1, 1, 1, "20(b) la2 19(a)", longest, "")),
		named("a", note(1, 12, 99, ""), note(2, 1, 1, "")), named("a", note(1, 1, 99, ""), note(1, 2, 1, "")), named("a", note(1, 1, 1, ""), note(1, 1, 2, "")),
	} {
		expectCheck(t, x, api.OK)
	}
	for k := 1; k <= 3; k++ {
		expectCheck(t, named("a", kind(k, entry(1, 1, 1, "1(a)", "b", "c"))), api.OK)
	}
	for _, x := range someInvalid() {
		expectCheck(t, x.t, x.e)
	}
	for _, name := range []string{"", "P1", "1p", "_", "p 1", longest + "q", "p\n", "é", "p#"} {
		expectCheck(t, named(name), api.ErrHead)
	}
}

// P4.1: what makes a single case invalid.
func TestCheckCase(t *testing.T) {
	cases := []api.Case{{}, entry(1, 1, 1, "", "", ""), entry(1, 1, 1, "", "a", "b"), kind(4, entry(1, 1, 1, "1(a)", "", "")), kind(4, entry(1, 1, 1, "", "a", "")), kind(4, entry(1, 1, 1, "[...]", "", ""))}
	for _, n := range []int{0, -1, mostInt, leastInt} {
		cases = append(cases, note(n, 1, 1, ""), note(1, n, 1, ""), note(1, 1, n, ""), kind(n, note(1, 1, 1, "")), kind(n, entry(1, 1, 1, "1(a)", "", "")))
	}
	cases = append(cases, note(7, 1, 1, ""), note(1, 13, 1, ""), note(1, 1, 100, ""), kind(5, note(1, 1, 1, "")), kind(5, entry(1, 1, 1, "1(a)", "", "")))
	for _, good := range []string{"A", "1", "a b", longest + "q", "[a]", " "} {
		cases = append(cases, entry(1, 1, 1, "1(a)", good, ""), kind(2, entry(1, 1, 1, "1(a)", good, "")), kind(3, entry(1, 1, 1, "1(a)", good, "")))
	}
	for _, n := range []api.Numeral{
		{Plus: []api.Group{{}, {}}}, {Plus: []api.Group{{Count: 0, Sign: "a"}}}, {Plus: []api.Group{{Count: 1, Sign: "A"}}}, {Plus: []api.Group{{Count: 100, Sign: "a"}}}, {Plus: []api.Group{{Count: 1, Sign: "a"}, {Count: 1, Sign: "a"}}},
		{Less: []api.Group{{Count: 1, Sign: "a"}}}, {Plus: []api.Group{{}}, Less: []api.Group{{Count: 1, Sign: "a"}}}, {Plus: make([]api.Group, 25)},
	} {
		for k := 1; k <= 4; k++ {
			cases = append(cases, api.Case{Face: 1, Column: 1, Line: 1, Kind: k, Amount: n})
		}
	}
	for _, c := range cases {
		expectCheck(t, named("a", c), api.ErrCase)
		c.Words = words("... ...")
		expectCheck(t, named("a", note(6, 1, 1, ""), c), api.ErrCase)
	}
	for _, w := range invalidWords() {
		c := note(1, 1, 1, "")
		c.Words = w
		expectCheck(t, named("a", note(1, 1, 1, ""), c), api.ErrWords)
		c = entry(1, 1, 1, "1(a)", "b", "")
		c.Words = w
		expectCheck(t, named("a", c), api.ErrWords)
	}
}

// P4.1: the order of places, compared by face, column and line.
func TestCheckSequence(t *testing.T) {
	var places [][]int
	for face := 1; face <= 6; face++ {
		for _, column := range []int{1, 2, 12} {
			for _, line := range []int{1, 2, 99} {
				places = append(places, []int{face, column, line})
			}
		}
	}
	for _, a := range places {
		for _, b := range places {
			e := api.ErrSequence
			if slices.Compare(a, b) < 0 {
				e = api.OK
			}
			expectCheck(t, named("a", note(a[0], a[1], a[2], ""), note(b[0], b[1], b[2], "")), e)
		}
	}
}

// P4.1: the first error is that of the first case that has one; the name and the number of cases come before.
func TestCheckOrder(t *testing.T) {
	many := notes(257)
	many.Cases[0].Face = 7
	expectCheck(t, many, api.ErrLimit)
	many.Name = ""
	expectCheck(t, many, api.ErrHead)
	expectCheck(t, named("A", note(7, 1, 1, "")), api.ErrHead)
	expectCheck(t, named("a", note(2, 1, 1, ""), note(1, 1, 1, ""), note(7, 1, 1, "")), api.ErrSequence)
	expectCheck(t, named("a", note(2, 1, 1, "... ..."), note(7, 1, 1, "")), api.ErrWords)
	expectCheck(t, named("a", note(2, 1, 1, ""), note(1, 1, 1, "... ...")), api.ErrWords)
	expectCheck(t, named("a", note(2, 1, 1, ""), note(1, 13, 1, "... ...")), api.ErrCase)
	expectCheck(t, named("a", note(2, 1, 1, ""), note(2, 1, 1, ""), note(2, 1, 2, "")), api.ErrSequence)
	last := notes(256)
	last.Cases[255].Line = 100
	expectCheck(t, last, api.ErrCase)
}

// P4.1: Same compares all fields, of valid and invalid tablets.
func TestSame(t *testing.T) {
	changes := []func(*api.Tablet){
		func(x *api.Tablet) { x.Name = "p2" },
		func(x *api.Tablet) { x.Cases = x.Cases[:3] },
		func(x *api.Tablet) { x.Cases = nil },
		func(x *api.Tablet) { x.Cases = append(x.Cases, api.Case{}) },
		func(x *api.Tablet) { x.Cases[0], x.Cases[1] = x.Cases[1], x.Cases[0] },
		func(x *api.Tablet) { x.Cases[1].Face = 0 },
		func(x *api.Tablet) { x.Cases[1].Column++ },
		func(x *api.Tablet) { x.Cases[1].Line = -1 },
		func(x *api.Tablet) { x.Cases[3].Kind = 9 },
		func(x *api.Tablet) { x.Cases[0].Amount.Plus[1].Count = 3 },
		func(x *api.Tablet) { x.Cases[0].Amount.Plus[1].More = true },
		func(x *api.Tablet) { x.Cases[0].Amount.Plus[1].Sign = "n39" },
		func(x *api.Tablet) { x.Cases[0].Amount.Less = []api.Group{{Count: 1, Sign: "n01"}} },
		func(x *api.Tablet) { x.Cases[2].Amount.Plus = make([]api.Group, 1) },
		func(x *api.Tablet) { x.Cases[3].Good = "barley" },
		func(x *api.Tablet) { x.Cases[0].Words[2].Text = "ur" },
		func(x *api.Tablet) { x.Cases[0].Words[2].State = api.WordRestored },
		func(x *api.Tablet) { x.Cases[0].Words = x.Cases[0].Words[:2] },
		func(x *api.Tablet) { x.Cases[3].Words = make([]api.Word, 1) },
	}
	for i, change := range changes {
		a, b, c := sampleTablet(), sampleTablet(), sampleTablet()
		change(&b)
		change(&c)
		if tablet.Same(a, b) || tablet.Same(b, a) || !tablet.Same(b, c) {
			t.Errorf("Same after the change %d: %v, %v, %v", i, tablet.Same(a, b), tablet.Same(b, a), tablet.Same(b, c))
		}
	}
	empty := sampleTablet()
	for i := range empty.Cases {
		c := &empty.Cases[i]
		c.Amount.Plus, c.Amount.Less, c.Words = append([]api.Group{}, c.Amount.Plus...), append([]api.Group{}, c.Amount.Less...), append([]api.Word{}, c.Words...)
	}
	if !tablet.Same(empty, sampleTablet()) || !tablet.Same(sampleTablet(), empty) || !tablet.Same(api.Tablet{Cases: []api.Case{}}, api.Tablet{}) || !tablet.Same(many(), many()) {
		t.Error("Same: nil and empty lists are the same, and so are tablets that are not valid")
	}
}

// many is an invalid tablet.
func many() api.Tablet { return api.Tablet{Name: "?", Cases: make([]api.Case, 300)} }
