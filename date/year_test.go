package date_test

import (
	"fmt"
	"slices"
	"testing"

	"bulla/api"
	"bulla/date"
)

// reigns returns the indices of the years of each king.
func reigns(c api.Calendar) map[string][]int {
	l := map[string][]int{}
	for i, y := range c.Years {
		l[c.Kings[y.King]] = append(l[c.Kings[y.King]], i)
	}
	return l
}

// P7.5
func TestReignAndYearOf(t *testing.T) {
	for _, c := range append(several(), largest()) {
		for king, l := range reigns(c) {
			for i, year := range l {
				got, n, e := date.Reign(c, year)
				expect(t, fmt.Sprintf("Reign(%s, %d)", brief(c), year), []any{got, n}, e, []any{king, i + 1}, api.OK)
				index, e := date.YearOf(c, king, i+1)
				expect(t, fmt.Sprintf("YearOf(%s, %s, %d)", brief(c), king, i+1), index, e, year, api.OK)
			}
		}
		for _, king := range append(names("", "b", "wall", "UR", longest+"a"), c.Kings...) {
			for _, n := range []int{0, -1, len(reigns(c)[king]) + 1, mostInt, leastInt} {
				index, e := date.YearOf(c, king, n)
				expect(t, fmt.Sprintf("YearOf(%s, %s, %d)", brief(c), king, n), index, e, 0, api.ErrNone)
			}
		}
	}
}

// P7.5: a king without years, before others and after them.
func TestKingsWithoutYears(t *testing.T) {
	c := api.Calendar{Kings: names("ur", "ea", "si", "lu"), Years: []api.Year{{King: 1, Name: "a"}, {King: 1, Name: "b"}, {King: 2, Name: "a"}}}
	for _, king := range names("ur", "lu") {
		for n := -1; n <= 4; n++ {
			year, e := date.YearOf(c, king, n)
			expect(t, fmt.Sprintf("YearOf(%s, %d)", king, n), year, e, 0, api.ErrNone)
		}
		l, e := date.Named(c, "a", king)
		expect(t, fmt.Sprintf("Named(a, %s)", king), l, e, nil, api.OK)
	}
	king, n, e := date.Reign(c, 1)
	expect(t, "Reign(1)", []any{king, n}, e, []any{"ea", 2}, api.OK)
}

// P7.5
func TestNamed(t *testing.T) {
	for _, c := range append(several(), largest()) {
		for _, name := range append(names("", "b", "-", "WALL", longest+"a"), named(c)...) {
			for _, king := range append(names("", "b", "-", "UR", longest+"a"), c.Kings...) {
				var want []int
				for i, y := range c.Years {
					if y.Name == name && (king == "" || king == c.Kings[y.King]) {
						want = append(want, i)
					}
				}
				l, e := date.Named(c, name, king)
				expect(t, fmt.Sprintf("Named(%s, %s, %s)", brief(c), name, king), l, e, want, api.OK)
			}
		}
	}
}

// named returns the names of the years.
func named(c api.Calendar) []string {
	var l []string
	for _, y := range c.Years {
		l = append(l, y.Name)
	}
	slices.Sort(l)
	return slices.Compact(l)
}

// The examples of the chapter: P7.5.
func TestYearsByExample(t *testing.T) {
	c := example()
	for year, want := range [][]any{{"ur", 1}, {"ur", 2}, {"si", 1}} {
		king, n, e := date.Reign(c, year)
		expect(t, fmt.Sprintf("Reign(c, %d)", year), []any{king, n}, e, want, api.OK)
	}
	year, e := date.YearOf(c, "ur", 3)
	expect(t, "YearOf(c, ur, 3)", year, e, 0, api.ErrNone)
	year, e = date.YearOf(c, "si", 1)
	expect(t, "YearOf(c, si, 1)", year, e, 2, api.OK)
	l, e := date.Named(c, "wall", "")
	expect(t, "Named(c, wall)", l, e, []int{0, 2}, api.OK)
	l, e = date.Named(c, "wall", "si")
	expect(t, "Named(c, wall, si)", l, e, []int{2}, api.OK)
}

// cycle returns a year of the place from 1 to 19 in the cycle, as the chapter defines it.
func cycle(king int, name string, place int) api.Year {
	double := []int{0, 0, 12, 0, 0, 12, 0, 12, 0, 0, 12, 0, 0, 12, 0, 0, 6, 0, 12}[place-1]
	long := 0
	for _, month := range []int{1, 3, 5, 7, 9, 11} {
		long |= 1 << (month - 1)
	}
	if double > 0 {
		long |= 1 << 12
	}
	return api.Year{King: king, Name: name, Double: double, Long: long}
}

// P7.9
func TestExtend(t *testing.T) {
	for _, c := range several() {
		last := c.Years[len(c.Years)-1].King
		for place := 1; place <= 19; place++ {
			for _, n := range []int{0, 1, 2, 19, 20, 38} {
				want := api.Calendar{Kings: c.Kings, Years: slices.Clone(c.Years)}
				var added []string
				for i := range n {
					name := fmt.Sprint("new_", i)
					added, want.Years = append(added, name), append(want.Years, cycle(last, name, (place+i-1)%19+1))
				}
				got, e := date.Extend(c, added, place)
				expect(t, fmt.Sprintf("Extend(%v, %d names, %d)", c, n, place), got, e, want, api.OK)
				expectError(t, "Check of what Extend returned", date.Check(got), api.OK)
			}
		}
	}
}

// P7.9: 400 years, and no more.
func TestExtendLimits(t *testing.T) {
	c := api.Calendar{Kings: names("ur"), Years: years(362)}
	added := kings(38)
	got, e := date.Extend(c, added, 19)
	if e != api.OK || len(got.Years) != 400 || got.Years[399] != cycle(0, "k37", 18) {
		t.Errorf("Extend to 400 years: %d, error %d", len(got.Years), e)
	}
	for _, x := range []struct {
		years int
		names []string
		place int
		e     api.Errno
	}{
		{363, kings(38), 1, api.ErrLimit}, {400, kings(1), 1, api.ErrLimit}, {399, kings(2), 1, api.ErrLimit}, {1, kings(39), 1, api.ErrLimit}, {1, make([]string, 39), 1, api.ErrLimit}, {400, names(""), 1, api.ErrLimit},
		{363, kings(38), 0, api.ErrRange}, {1, kings(39), 20, api.ErrRange}, {1, kings(1), -1, api.ErrRange}, {1, nil, 0, api.ErrRange}, {1, nil, 20, api.ErrRange}, {1, kings(1), mostInt, api.ErrRange}, {1, kings(1), leastInt, api.ErrRange}, {1, names(""), 20, api.ErrRange},
	} {
		got, e := date.Extend(api.Calendar{Kings: names("ur"), Years: years(x.years)}, x.names, x.place)
		expect(t, fmt.Sprintf("Extend(%d years, %v, %d)", x.years, x.names, x.place), got, e, api.Calendar{}, x.e)
	}
	for n, names := range map[int][]string{400: nil, 399: {"a"}} {
		got, e := date.Extend(api.Calendar{Kings: kings(1), Years: years(n)}, names, 1)
		if e != api.OK || len(got.Years) != 400 {
			t.Errorf("Extend(%d years, %v): %d years, error %d", n, names, len(got.Years), e)
		}
	}
}

// P7.9: names that no further year may have, and names that it may have as only years of other kings have them.
func TestExtendNames(t *testing.T) {
	c := example()
	for _, bad := range [][]string{{""}, {"A"}, {"1"}, {longest + "a"}, {"a", ""}, {"wall"}, {"a", "wall"}, {"a", "a"}, {"a", "b", "a"}, {"canal", "b", "canal"}, {"", "a"}, {"-"}} {
		got, e := date.Extend(c, bad, 1)
		expect(t, fmt.Sprintf("Extend(c, %q, 1)", bad), got, e, api.Calendar{}, api.ErrForm)
	}
	for _, good := range [][]string{{longest}, {"canal"}, {"ur", "si"}, {"canal", "a", "wall_"}} {
		got, e := date.Extend(c, good, 1)
		if e != api.OK || len(got.Years) != 3+len(good) || !slices.Equal(got.Kings, c.Kings) || !slices.Equal(got.Years[:3], c.Years) {
			t.Errorf("Extend(c, %q, 1): %v, error %d", good, got, e)
		}
	}
	// The last king of the list has no years: the king before reigns on.
	c.Kings = append(c.Kings, "ea")
	got, e := date.Extend(c, names("a"), 3)
	if e != api.OK || got.Years[3] != (api.Year{King: 1, Name: "a", Double: 12, Long: 1365 + 4096}) {
		t.Errorf("Extend of a reign before a king without years: %v, error %d", got, e)
	}
}

// The example of the chapter: P7.9.
func TestExtendByExample(t *testing.T) {
	got, e := date.Extend(example(), names("a", "b"), 17)
	want := example()
	want.Years = append(want.Years, api.Year{King: 1, Name: "a", Double: 6, Long: 1365 + 4096}, api.Year{King: 1, Name: "b", Long: 1365})
	expect(t, "Extend(c, a b, 17)", got, e, want, api.OK)
}
