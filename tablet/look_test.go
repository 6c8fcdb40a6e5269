package tablet_test

import (
	"maps"
	"slices"
	"testing"

	"bulla/api"
	"bulla/tablet"
)

// P4.4
func TestFind(t *testing.T) {
	x := sampleTablet()
	for _, y := range []struct {
		face, column, line int
		i                  int
		e                  api.Errno
	}{
		{1, 1, 1, 0, api.OK}, {1, 1, 2, 1, api.OK}, {1, 3, 1, 2, api.OK}, {2, 1, 1, 3, api.OK},
		{1, 2, 1, 0, api.ErrNone}, {1, 1, 3, 0, api.ErrNone}, {2, 1, 2, 0, api.ErrNone}, {2, 3, 1, 0, api.ErrNone}, {3, 1, 1, 0, api.ErrNone}, {0, 0, 0, 0, api.ErrNone}, {7, 1, 1, 0, api.ErrNone}, {1, 13, 1, 0, api.ErrNone}, {1, 1, 100, 0, api.ErrNone}, {-1, 1, 1, 0, api.ErrNone}, {mostInt, leastInt, mostInt, 0, api.ErrNone},
	} {
		i, e := tablet.Find(x, y.face, y.column, y.line)
		expect(t, "Find("+show(y)+")", i, e, y.i, y.e)
	}
	i, e := tablet.Find(named("a"), 1, 1, 1)
	expect(t, "Find in no cases", i, e, 0, api.ErrNone)
	for _, y := range someInvalid() {
		i, e := tablet.Find(y.t, 1, 1, 1)
		expect(t, "Find", i, e, 0, y.e)
	}
}

// P4.4
func TestPlan(t *testing.T) {
	reverse := sampleTablet()
	reverse.Cases = reverse.Cases[:3]
	for i := range reverse.Cases {
		reverse.Cases[i].Face = api.FaceReverse
	}
	for _, x := range []struct {
		t    api.Tablet
		face int
		plan [][]int
	}{
		{sampleTablet(), api.FaceObverse, [][]int{{0, -1, 2}, {1, -1, -1}}}, {sampleTablet(), api.FaceReverse, [][]int{{3}}}, {sampleTablet(), api.FaceTop, nil}, {named("a"), api.FaceObverse, nil},
		{reverse, api.FaceReverse, [][]int{{2, -1, 0}, {-1, -1, 1}}}, {reverse, api.FaceObverse, nil},
		{named("a", note(4, 3, 2, "")), api.FaceRight, [][]int{{-1, -1, -1}, {-1, -1, 0}}}, {named("a", note(2, 3, 2, "")), api.FaceReverse, [][]int{{-1, -1, -1}, {0, -1, -1}}},
		{named("a", note(1, 1, 1, ""), note(3, 1, 2, ""), note(3, 2, 1, ""), note(4, 2, 9, "")), api.FaceLeft, [][]int{{-1, 2}, {1, -1}}}, {named("a", note(5, 1, 1, ""), note(6, 2, 1, "")), api.FaceBottom, [][]int{{-1, 1}}},
	} {
		plan, e := tablet.Plan(x.t, x.face)
		expect(t, "Plan of "+show(x.t), plan, e, x.plan, api.OK)
	}
	last := named("a", note(2, 12, 99, ""))
	plan, e := tablet.Plan(last, 2)
	if e != api.OK || len(plan) != 99 || len(plan[0]) != 12 || plan[98][0] != 0 || plan[98][11] != -1 {
		t.Errorf("Plan of the last place: %v, error %d", plan, e)
	}
	for _, face := range []int{0, 7, -1, mostInt, leastInt} {
		plan, e := tablet.Plan(sampleTablet(), face)
		expectZero(t, "Plan of no face", plan, e, api.ErrArg)
		for _, x := range someInvalid() {
			plan, e := tablet.Plan(x.t, face)
			expectZero(t, "Plan", plan, e, x.e)
		}
	}
}

// P4.11: every case of a face stands exactly once in its plan, in the list of its line; on the reverse the plan is mirrored.
func TestPlanAll(t *testing.T) {
	random := newRandom()
	for range 300 {
		x := someTablet(random, 60)
		for face := 1; face <= 6; face++ {
			plan, e := tablet.Plan(x, face)
			found := map[int]bool{}
			for i, row := range plan {
				for j, k := range row {
					column := 1 + j
					if face == api.FaceReverse {
						column = len(row) - j
					}
					if k == -1 {
						continue
					}
					if found[k] || x.Cases[k].Face != face || x.Cases[k].Line != 1+i || x.Cases[k].Column != column {
						t.Fatalf("Plan(%s, %d): %v", show(x), face, plan)
					}
					found[k] = true
				}
				if len(row) != len(plan[0]) {
					t.Fatalf("Plan(%s, %d): %v", show(x), face, plan)
				}
			}
			expectWhole(t, x, face, plan, len(found), e)
		}
	}
}

// expectWhole compares the size of a plan, and the number of cases in it, with what the face has.
func expectWhole(t *testing.T, x api.Tablet, face int, plan [][]int, found int, e api.Errno) {
	t.Helper()
	n, lines, columns, width := 0, 0, 0, 0
	for _, c := range x.Cases {
		if c.Face == face {
			n, lines, columns = n+1, max(lines, c.Line), max(columns, c.Column)
		}
	}
	if len(plan) > 0 {
		width = len(plan[0])
	}
	if e != api.OK || found != n || len(plan) != lines || width != columns {
		t.Fatalf("Plan(%s, %d): %v, error %d", show(x), face, plan, e)
	}
}

// P4.5
func TestCount(t *testing.T) {
	for _, x := range []struct {
		t api.Tablet
		n api.Counts
	}{
		{sampleTablet(), api.Counts{Intact: 2, Damaged: 1, Restored: 1, Lost: 1, Gaps: 1, Amounts: 3, Broken: 1}}, {named("a"), api.Counts{}}, {notes(256), api.Counts{}},
		{named("a", note(1, 1, 1, "a a b a# - - ..."), note(1, 1, 2, "[a] [a] ... - ... [b] ..."), kind(2, entry(1, 1, 3, "1+(a)", "", "")), kind(3, entry(1, 1, 4, "2(a) la2 1(b)", "", "...")), entry(1, 1, 5, "1(b) [...]", "c", "c#")), api.Counts{Intact: 3, Damaged: 2, Restored: 3, Lost: 3, Gaps: 5, Amounts: 3, Broken: 2}},
	} {
		n, e := tablet.Count(x.t)
		expect(t, "Count", n, e, x.n, api.OK)
	}
	for _, x := range someInvalid() {
		n, e := tablet.Count(x.t)
		expectZero(t, "Count", n, e, x.e)
	}
}

// P4.5
func TestNames(t *testing.T) {
	for _, x := range []struct {
		t     api.Tablet
		names []string
	}{
		{sampleTablet(), []string{"iti", "lugal", "nin", "uru"}}, {named("a"), nil}, {named("a", note(1, 1, 1, "- ... -")), nil}, {named("a", entry(1, 1, 1, "1(x)", "y", "")), nil},
		{named("a", note(1, 1, 1, "b ab [a] z a#"), note(1, 1, 2, "[b] a1 a_ aa a - ... z#")), []string{"a", "a1", "a_", "aa", "ab", "b", "z"}},
	} {
		names, e := tablet.Names(x.t)
		expect(t, "Names", names, e, x.names, api.OK)
	}
	for _, x := range someInvalid() {
		names, e := tablet.Names(x.t)
		expectZero(t, "Names", names, e, x.e)
	}
}

// P4.5
func TestWhere(t *testing.T) {
	x := named("a", note(1, 1, 1, "b ab [b] - b# ..."), note(1, 1, 2, ""), entry(2, 1, 1, "1(b)", "b", "a b"))
	for _, y := range []struct {
		t     api.Tablet
		name  string
		spots []api.Spot
	}{
		{sampleTablet(), "nin", []api.Spot{{Case: 1, Word: 1}}}, {sampleTablet(), "iti", []api.Spot{{Case: 2, Word: 0}}}, {sampleTablet(), "barley", nil}, {named("a"), "a", nil},
		{x, "b", []api.Spot{{Case: 0, Word: 0}, {Case: 0, Word: 2}, {Case: 0, Word: 4}, {Case: 2, Word: 1}}}, {x, "ab", []api.Spot{{Case: 0, Word: 1}}}, {x, "a", []api.Spot{{Case: 2, Word: 0}}}, {x, longest, nil},
	} {
		spots, e := tablet.Where(y.t, y.name)
		expect(t, "Where "+y.name, spots, e, y.spots, api.OK)
	}
	for _, name := range []string{"", "A", "...", "-", "a b", "1", longest + "q"} {
		spots, e := tablet.Where(x, name)
		expectZero(t, "Where "+name, spots, e, api.ErrArg)
		for _, y := range someInvalid() {
			spots, e := tablet.Where(y.t, name)
			expectZero(t, "Where", spots, e, y.e)
		}
	}
}

// P4.5: the names, the spots of each and the counts of words agree, for any tablet.
func TestWords(t *testing.T) {
	random := newRandom()
	for range 300 {
		x := someTablet(random, 20)
		wanted := map[string][]api.Spot{}
		var n api.Counts
		for i, c := range x.Cases {
			for j, w := range c.Words {
				*[]*int{&n.Intact, &n.Damaged, &n.Restored, &n.Lost, &n.Gaps}[w.State-1]++
				if w.State <= api.WordRestored {
					wanted[w.Text] = append(wanted[w.Text], api.Spot{Case: i, Word: j})
				}
			}
			if c.Kind < api.KindNote {
				n.Amounts++
				if slices.ContainsFunc(c.Amount.Plus, func(g api.Group) bool { return g.More || g.Count == 0 }) {
					n.Broken++
				}
			}
		}
		names, e := tablet.Names(x)
		expect(t, "Names", names, e, slices.Sorted(maps.Keys(wanted)), api.OK)
		for name, spots := range wanted {
			got, e := tablet.Where(x, name)
			expect(t, "Where "+name, got, e, spots, api.OK)
		}
		got, e := tablet.Count(x)
		expect(t, "Count", got, e, n, api.OK)
	}
}
