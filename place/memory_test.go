package place_test

import (
	"fmt"
	"slices"
	"testing"

	"bulla/api"
	"bulla/place"
)

// roomy returns digits with memory behind them.
func roomy(digits ...int) []int { return append(make([]int, 0, 40), digits...) }

// spoil overwrites a list, also beyond its length.
func spoil(a []int) {
	for i := range a[:cap(a)] {
		a[:cap(a)][i] = -7
	}
}

// P3.13: arguments are only read.
func TestArguments(t *testing.T) {
	a, b := roomy(2, 5), roomy(1, 6, 40)
	l := append(make([]api.Place, 0, 40), api.Place{D: a, Shift: 3}, api.Place{D: b, Shift: -2})
	place.Check(a)
	place.Text(a)
	place.Whole(a)
	place.Mul(a, b)
	place.Mul(a, a)
	place.Table(a)
	place.ByTable(a, b)
	place.Regular(a)
	place.Recip(a)
	place.Steps(a)
	place.CheckPlace(l[0])
	place.Sum(l)
	place.Sum(l[:1])
	place.Compare(l[0], l[1])
	place.Ratio(l[0])
	expectDigits(t, "an argument", a, api.OK, d(2, 5), api.OK)
	expectDigits(t, "an argument", b, api.OK, d(1, 6, 40), api.OK)
	expectPlaces(t, "an argument", l, api.OK, []api.Place{p(3, 2, 5), p(-2, 1, 6, 40)}, api.OK)
	for _, x := range [][]int{a, b} {
		expectDigits(t, "the memory behind an argument", x[len(x):cap(x)], api.OK, make([]int, 40-len(x)), api.OK)
	}
	expectPlaces(t, "the memory behind an argument", l[2:cap(l)], api.OK, make([]api.Place, 38), api.OK)
}

// results returns the lists of digits of all results of calls with these arguments, with what they are.
func results(a, b []int) map[string][]int {
	lists := map[string][]int{}
	lists["Parse"], _, _ = place.Parse("2:5")
	lists["Of"], _ = place.Of(125)
	lists["Mul"], _ = place.Mul(a, b)
	lists["Recip"], _ = place.Recip(a)
	rows, _ := place.Table(a)
	for i, row := range rows {
		lists[fmt.Sprint("Table ", i)] = row
	}
	addPlaces := func(call string, l ...api.Place) {
		for i, x := range l {
			lists[fmt.Sprint(call, " ", i)] = x.D
		}
	}
	addPairs := func(call string, l []api.Pair) {
		for i, x := range l {
			lists[fmt.Sprint(call, " ", i, " A")] = x.A
			lists[fmt.Sprint(call, " ", i, " B")] = x.B
		}
	}
	products, _ := place.ByTable(a, b)
	addPlaces("ByTable", products...)
	steps, _ := place.Steps(a)
	addPairs("Steps", steps)
	pairs, _ := place.Pairs(1)
	addPairs("Pairs", pairs)
	low, high, _ := place.Near(8, 2)
	addPlaces("Near", low, high)
	root, _ := place.Root(2, 4)
	sum, _ := place.Sum([]api.Place{{D: a}})
	other, _ := place.Sum([]api.Place{{D: a}, {}})
	ratio, _ := place.FromRatio(api.Ratio{N: 5, D: 8})
	addPlaces("a place", root, sum, other, ratio)
	return lists
}

// P3.13: no result shares memory with an argument, with another result, or with a later one.
func TestResults(t *testing.T) {
	a, b := d(2, 5), d(1)
	want := results(a, b)
	got := results(a, b)
	if len(want) < 80 {
		t.Fatalf("only %d results", len(want))
	}
	for name, list := range got {
		expectDigits(t, name+", after others were spoilt", list, api.OK, want[name], api.OK)
		spoil(list)
	}
	again := results(a, b)
	for name, list := range want {
		expectDigits(t, name+", called again", again[name], api.OK, list, api.OK)
	}
	if !slices.Equal(a, d(2, 5)) || !slices.Equal(b, d(1)) {
		t.Errorf("a changed result changes the arguments: %v, %v", a, b)
	}
}

// P3.13: results of places are not kept in the arguments.
func TestArgumentsAreNotRetained(t *testing.T) {
	a, b := d(2, 5), d(1, 6, 40)
	before := results(a, b)
	want := results(d(2, 5), d(1, 6, 40))
	spoil(a)
	spoil(b)
	for name, list := range before {
		expectDigits(t, name+", after the arguments were spoilt", list, api.OK, want[name], api.OK)
	}
}
