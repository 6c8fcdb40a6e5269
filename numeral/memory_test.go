package numeral_test

import (
	"slices"
	"testing"

	"bulla/api"
	"bulla/numeral"
)

// spoil overwrites a list, also beyond its length.
func spoil(lists ...[]api.Group) {
	for _, l := range lists {
		for i := range l[:cap(l)] {
			l[:cap(l)][i] = g(77, "spoilt")
		}
	}
}

func spoilNumbers(l []int) {
	for i := range l[:cap(l)] {
		l[:cap(l)][i] = -7
	}
}

// roomy returns a numeral of these texts' groups, with memory behind them.
func roomy(t *testing.T, s string) api.Numeral {
	n := parsed(t, s)
	return api.Numeral{Plus: append(make([]api.Group, 0, 30), n.Plus...), Less: append(make([]api.Group, 0, 30), n.Less...)}
}

// P2.9: arguments are only read.
func TestArguments(t *testing.T) {
	l := standard(t, "count")
	a, b, c := roomy(t, "2(n34) 12(n14) la2 3(n01)"), roomy(t, "1(n14) 12(n01)"), roomy(t, "1(n34) [...] 2+(n01)")
	x, all := []api.Numeral{a, b}, []api.Ladder{l, deep()}
	calls := func() {
		for _, n := range []api.Numeral{a, b, c} {
			numeral.Check(n)
			numeral.Same(n, n)
			numeral.Text(n)
			numeral.Damaged(n)
			numeral.Marks(n)
			numeral.Read(l, n)
			numeral.Readings(all, n)
			numeral.Canonical(l, n)
			numeral.Times(l, n, 3)
			numeral.Fits(l, n, 62)
			numeral.Candidates(l, n, 100, 10)
			numeral.Diff(l, a, n)
		}
		numeral.Write(l, 3599)
		numeral.Short(l, 3599)
		numeral.Sum(l, x)
	}
	calls()
	if !equal(a, parsed(t, "2(n34) 12(n14) la2 3(n01)")) || !equal(b, parsed(t, "1(n14) 12(n01)")) || !equal(c, parsed(t, "1(n34) [...] 2+(n01)")) {
		t.Errorf("numerals were changed: %v, %v, %v", a, b, c)
	}
	for _, groups := range [][]api.Group{a.Plus, a.Less, b.Plus, b.Less, c.Plus, c.Less} {
		for _, x := range groups[len(groups):cap(groups)] {
			if x != (api.Group{}) {
				t.Errorf("memory behind the groups %v was changed", groups)
			}
		}
	}
	if !slices.Equal(l.Units, standard(t, "count").Units) || !equal(x[0], a) || !equal(x[1], b) || all[1].Name != "deep" {
		t.Errorf("lists were changed: %v, %v, %v", l, x, all)
	}
}

// P2.9: results are new memory.
func TestResults(t *testing.T) {
	l := standard(t, "count")
	canonical := roomy(t, "1(n34) 5(n14)")
	for range 2 { // what was spoilt in the first round must not be seen in the second one
		n, _, e := numeral.Parse("2(n14) la2 1(n01)")
		spoil(n.Less)
		expectNumeral(t, "Parse, Plus", plus(n.Plus...), e, "2(n14)", api.OK)
		n, _, e = numeral.Parse("2(n14) la2 1(n01)")
		spoil(n.Plus)
		expectNumeral(t, "Parse, Less", plus(n.Less...), e, "1(n01)", api.OK)
		n, e = numeral.Write(l, 110)
		expectNumeral(t, "Write", n, e, "1(n34) 5(n14)", api.OK)
		spoil(n.Plus, n.Less)
		n, e = numeral.Canonical(l, canonical)
		expectNumeral(t, "Canonical", n, e, "1(n34) 5(n14)", api.OK)
		spoil(n.Plus, n.Less)
		n, e = numeral.Times(l, canonical, 1)
		expectNumeral(t, "Times", n, e, "1(n34) 5(n14)", api.OK)
		spoil(n.Plus, n.Less)
		n, e = numeral.Diff(l, canonical, roomy(t, "1(n01)"))
		expectNumeral(t, "Diff", n, e, "1(n34) 4(n14) 9(n01)", api.OK)
		spoil(n.Plus, n.Less)
		n, e = numeral.Short(l, 59)
		spoil(n.Less)
		expectNumeral(t, "Short, Plus", plus(n.Plus...), e, "1(n34)", api.OK)
		spoil(n.Plus)
		s, carries, e := numeral.Sum(l, []api.Numeral{canonical})
		spoilNumbers(carries)
		expectNumeral(t, "Sum", s, e, "1(n34) 5(n14)", api.OK)
		spoil(s.Plus, s.Less)
		found, e := numeral.Candidates(l, canonical, 110, 1)
		expectList(t, "Candidates", found, e, []int{110}, api.OK)
		spoilNumbers(found)
		readings, e := numeral.Readings([]api.Ladder{l}, canonical)
		expectList(t, "Readings", readings, e, []api.Reading{{Ladder: "count", N: 110}}, api.OK)
		readings[0] = api.Reading{}
		if !equal(canonical, parsed(t, "1(n34) 5(n14)")) || !slices.Equal(l.Units, standard(t, "count").Units) {
			t.Fatalf("a changed result changes the arguments: %v, %v", canonical, l)
		}
	}
}
