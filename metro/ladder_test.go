package metro_test

import (
	"fmt"
	"slices"
	"testing"

	"bulla/api"
	"bulla/metro"
)

// P1.4
func TestStandard(t *testing.T) {
	want := []struct {
		name, signs     string
		factors, values []int
	}{
		{"count", "n01 n14 n34 n48 n45 n50 ", []int{1, 10, 6, 10, 6, 10}, []int{1, 10, 60, 600, 3600, 36000}},
		{"bisex", "n01 n14 n34 n51 n54 n56 ", []int{1, 10, 6, 2, 10, 6}, []int{1, 10, 60, 120, 1200, 7200}},
		{"grain", "n39 n01 n14 n45 n48 n34 ", []int{1, 5, 6, 10, 3, 10}, []int{1, 5, 30, 300, 900, 9000}},
		{"area", "n01 n22 n14 n50 n45 ", []int{1, 6, 3, 10, 6}, []int{1, 6, 18, 180, 1080}},
		{"time", "n08 n18 n01 n57 ", []int{1, 10, 3, 12}, []int{1, 10, 30, 360}},
		{"weight", "sze szeu gin ginu mana manau gun ", []int{1, 10, 18, 10, 6, 10, 6}, []int{1, 10, 180, 1800, 10800, 108000, 648000}},
	}
	l := metro.Standard()
	if len(l) != len(want) {
		t.Fatalf("Standard: %d ladders", len(l))
	}
	for i, x := range want {
		signs := ""
		var factors, values []int
		for _, u := range l[i].Units {
			signs += u.Sign + " "
			factors = append(factors, u.Factor)
			value, e := metro.Value(l[i], u.Sign)
			expect(t, "Check of a standard ladder", metro.Check(l[i]), e, api.OK, api.OK)
			values = append(values, value)
		}
		if l[i].Name != x.name || signs != x.signs || !slices.Equal(factors, x.factors) || !slices.Equal(values, x.values) {
			t.Errorf("Standard: %v with the values %v", l[i], values)
		}
	}
}

// twelve is a ladder of as many units as are allowed, and deep one whose last sign has the value 2^40.
func twelve() api.Ladder { return ladder("twelve", 1, 2, 3, 4, 5, 6, 7, 8, 9, 10, 2, 2) }

func deep() api.Ladder { return ladder("deep", 1, 32, 32, 32, 32, 32, 32, 32, 32) }

func withName(name string) api.Ladder {
	return api.Ladder{Name: name, Units: []api.Unit{{Sign: "u", Factor: 1}}}
}

func withSigns(signs ...string) api.Ladder {
	l := ladder("a", 1, 2, 2, 2, 2)
	l.Units = l.Units[:len(signs)]
	for i, s := range signs {
		l.Units[i].Sign = s
	}
	return l
}

func validLadders() []api.Ladder {
	return append(metro.Standard(), twelve(), deep(), ladder("one", 1), ladder("a", 1, 2), ladder("a", 1, 60), ladder("a", 1, 60, 60, 60, 60, 60, 60), ladder("nine", 1, 9), withName("abcdefghijklmnop"), withSigns("abcdefghijklmnop", "a", "b_", "c9"))
}

func invalidLadders() []api.Ladder {
	return []api.Ladder{
		{}, {Name: "a"}, {Name: "a", Units: []api.Unit{}}, withName(""), withName("A"), withName("0a"), withName("abcdefghijklmnopq"),
		withSigns(""), withSigns("a", "B"), withSigns("a", "b", "_c"), withSigns("a", "abcdefghijklmnopq"), withSigns("a", "a"), withSigns("a", "b", "a"), withSigns("a", "b", "c", "d", "c"), withSigns("a", "b", "c", "d", "a"),
		ladder("a", 0), ladder("a", 2), ladder("a", -1), ladder("a", 10, 6), ladder("a", 1, 1), ladder("a", 1, 0), ladder("a", 1, -2), ladder("a", 1, 61), ladder("a", 1, 10, 61), ladder("a", 1, 10, 1), ladder("a", 1, mostInt), ladder("a", 1, leastInt), ladder("a", 1, 6, 0, 6),
		ladder("a", 1, 2, 2, 2, 2, 2, 2, 2, 2, 2, 2, 2, 2), ladder("a", 1, 33, 32, 32, 32, 32, 32, 32, 32), ladder("a", 1, 32, 32, 32, 32, 32, 32, 32, 32, 2), ladder("a", 1, 60, 60, 60, 60, 60, 60, 60),
		ladder("a", 1, 60, 60, 60, 60, 60, 60, 60, 60, 60, 60, 60), // 60^11 is no int
		ladder("a", 1, 58, 60, 60, 60, 60, 60, 60, 60, 60, 60, 60), ladder("a", 1, 60, 60, 60, 60, 60, 60, 60, 60, 60, 60), ladder("a", 1, 31, 60, 60, 60, 60, 60, 60, 60, 60, 60, 60),
	}
}

// P1.4
func TestCheck(t *testing.T) {
	for _, l := range validLadders() {
		expect(t, fmt.Sprintf("Check(%v)", l), metro.Check(l), api.OK, api.OK, api.OK)
	}
	for _, l := range invalidLadders() {
		expect(t, fmt.Sprintf("Check(%v)", l), metro.Check(l), api.OK, api.ErrLadder, api.OK)
	}
}

// P1.4 to P1.7: an invalid ladder comes before all other errors.
func TestInvalidLadders(t *testing.T) {
	for _, l := range invalidLadders() {
		call := fmt.Sprintf(" of %v", l)
		for _, sign := range []string{"u00", "u01", "a", ""} {
			n, e := metro.Value(l, sign)
			expect(t, "Value"+call, n, e, 0, api.ErrLadder)
			for _, number := range []int{5, -1, leastInt, mostInt} {
				q, e := metro.In(l, number, sign)
				expect(t, "In"+call, q, e, api.Ratio{}, api.ErrLadder)
				n, e = metro.Round(l, number, sign)
				expect(t, "Round"+call, n, e, 0, api.ErrLadder)
				counts, e := metro.Split(l, number)
				expectList(t, "Split"+call, counts, e, nil, api.ErrLadder)
			}
		}
		for _, counts := range [][]int{nil, {1}, {-1}, {mostInt, mostInt}, make([]int, 20)} {
			n, e := metro.Total(l, counts)
			expect(t, "Total"+call, n, e, 0, api.ErrLadder)
			expectCarry(t, l, counts, nil, nil, api.ErrLadder)
		}
	}
}

func expectCarry(t *testing.T, l api.Ladder, counts, canonical, carries []int, wantError api.Errno) {
	t.Helper()
	c, k, e := metro.Carry(l, counts)
	call := fmt.Sprintf("Carry(%s, %v)", l.Name, counts)
	expectList(t, call, c, e, canonical, wantError)
	expectList(t, call+", the carries", k, e, carries, wantError)
}

// P1.4
func TestValue(t *testing.T) {
	for _, x := range []struct {
		l    api.Ladder
		sign string
		want int
		e    api.Errno
	}{
		{standard(t, "grain"), "n45", 300, api.OK}, {standard(t, "area"), "n45", 1080, api.OK}, {standard(t, "count"), "n45", 3600, api.OK}, {standard(t, "time"), "n45", 0, api.ErrUnit}, {standard(t, "grain"), "n39", 1, api.OK}, {standard(t, "count"), "n39", 0, api.ErrUnit},
		{deep(), "u08", 1 << 40, api.OK}, {deep(), "u07", 1 << 35, api.OK}, {deep(), "u09", 0, api.ErrUnit}, {twelve(), "u11", 4 * 3628800, api.OK}, {deep(), "", 0, api.ErrUnit}, {deep(), "U00", 0, api.ErrUnit}, {deep(), "u0", 0, api.ErrUnit}, {deep(), "u000", 0, api.ErrUnit},
	} {
		n, e := metro.Value(x.l, x.sign)
		expect(t, fmt.Sprintf("Value(%s, %q)", x.l.Name, x.sign), n, e, x.want, x.e)
	}
}

// P1.5
func TestSplit(t *testing.T) {
	for _, x := range []struct {
		l    api.Ladder
		n    int
		want []int
		e    api.Errno
	}{
		{standard(t, "grain"), 947, []int{2, 3, 1, 0, 1, 0}, api.OK}, {standard(t, "grain"), 0, []int{0, 0, 0, 0, 0, 0}, api.OK}, {standard(t, "time"), 359, []int{9, 2, 11, 0}, api.OK}, {standard(t, "time"), 360, []int{0, 0, 0, 1}, api.OK}, {standard(t, "time"), 36000, []int{0, 0, 0, 100}, api.OK},
		{ladder("one", 1), 1 << 40, []int{1 << 40}, api.OK}, {ladder("one", 1), 0, []int{0}, api.OK}, {deep(), 1 << 40, []int{0, 0, 0, 0, 0, 0, 0, 0, 1}, api.OK}, {deep(), 1<<40 - 1, []int{31, 31, 31, 31, 31, 31, 31, 31, 0}, api.OK},
		{ladder("a", 1, 2), 1 << 40, []int{0, 1 << 39}, api.OK}, {deep(), 1<<40 + 1, nil, api.ErrRange}, {deep(), -1, nil, api.ErrRange}, {deep(), leastInt, nil, api.ErrRange}, {deep(), mostInt, nil, api.ErrRange},
	} {
		c, e := metro.Split(x.l, x.n)
		expectList(t, fmt.Sprintf("Split(%s, %d)", x.l.Name, x.n), c, e, x.want, x.e)
	}
}

// P1.5
func TestTotal(t *testing.T) {
	grain, one := standard(t, "grain"), ladder("one", 1)
	for _, x := range []struct {
		l    api.Ladder
		c    []int
		want int
		e    api.Errno
	}{
		{grain, []int{7, 8, 9}, 317, api.OK}, {grain, nil, 0, api.OK}, {grain, []int{}, 0, api.OK}, {grain, []int{1, 1, 1, 1, 1, 1}, 10236, api.OK}, {grain, []int{0, 0, 0, 0, 0, 2}, 18000, api.OK}, {one, []int{5}, 5, api.OK},
		{grain, []int{1 << 40}, 1 << 40, api.OK}, {deep(), []int{0, 0, 0, 0, 0, 0, 0, 0, 1}, 1 << 40, api.OK}, {deep(), []int{31, 31, 31, 31, 31, 31, 31, 31, 0}, 1<<40 - 1, api.OK}, {deep(), []int{32, 31, 31, 31, 31, 31, 31, 31}, 1 << 40, api.OK},
		{grain, make([]int, 7), 0, api.ErrArg}, {one, []int{1, 0}, 0, api.ErrArg}, {one, []int{-1, mostInt}, 0, api.ErrArg}, {grain, make([]int, 1000), 0, api.ErrArg},
		{grain, []int{-1}, 0, api.ErrRange}, {grain, []int{5, 0, 0, 0, 0, -1}, 0, api.ErrRange}, {grain, []int{10, -1}, 0, api.ErrRange}, {grain, []int{mostInt, -1}, 0, api.ErrRange}, {grain, []int{0, 1 << 40, 0, leastInt}, 0, api.ErrRange},
		{grain, []int{1<<40 + 1}, 0, api.ErrBig}, {grain, []int{1, 1 << 40}, 0, api.ErrBig}, {deep(), []int{1, 0, 0, 0, 0, 0, 0, 0, 1}, 0, api.ErrBig}, {deep(), []int{33, 31, 31, 31, 31, 31, 31, 31}, 0, api.ErrBig},
		{grain, []int{mostInt}, 0, api.ErrBig}, {grain, []int{mostInt, mostInt}, 0, api.ErrBig}, {ladder("a", 1, 2), []int{2, mostInt}, 0, api.ErrBig}, {standard(t, "count"), []int{0, 0, 0, 0, 0, 1 << 62}, 0, api.ErrBig}, {deep(), []int{7, 0, 0, 0, 0, 0, 0, 0, 1 << 24}, 0, api.ErrBig},
	} {
		n, e := metro.Total(x.l, x.c)
		expect(t, fmt.Sprintf("Total(%s, %v)", x.l.Name, x.c), n, e, x.want, x.e)
		if x.e != api.OK {
			expectCarry(t, x.l, x.c, nil, nil, x.e) // P1.6: the errors of Total
		}
	}
}

// P1.6
func TestCarry(t *testing.T) {
	grain, time := standard(t, "grain"), standard(t, "time")
	expectCarry(t, grain, []int{7, 8, 9}, []int{2, 3, 0, 1, 0, 0}, []int{1, 1, 1, 0, 0}, api.OK)
	expectCarry(t, grain, nil, []int{0, 0, 0, 0, 0, 0}, []int{0, 0, 0, 0, 0}, api.OK)
	expectCarry(t, time, []int{9, 2, 11, 5}, []int{9, 2, 11, 5}, []int{0, 0, 0}, api.OK)
	expectCarry(t, time, []int{10, 2, 11, 5}, []int{0, 0, 0, 6}, []int{1, 1, 1}, api.OK) // each carry leads to the next one
	expectCarry(t, time, []int{3600}, []int{0, 0, 0, 10}, []int{360, 120, 10}, api.OK)
	expectCarry(t, time, []int{0, 0, 0, 100}, []int{0, 0, 0, 100}, []int{0, 0, 0}, api.OK)
	expectCarry(t, time, []int{19, 7}, []int{9, 2, 2, 0}, []int{1, 2, 0}, api.OK)
	expectCarry(t, ladder("one", 1), []int{77}, []int{77}, nil, api.OK)
	expectCarry(t, ladder("one", 1), nil, []int{0}, nil, api.OK)
	expectCarry(t, deep(), []int{1 << 40}, []int{0, 0, 0, 0, 0, 0, 0, 0, 1}, []int{1 << 35, 1 << 30, 1 << 25, 1 << 20, 1 << 15, 1 << 10, 1 << 5, 1}, api.OK)
}

// P1.7
func TestIn(t *testing.T) {
	weight := standard(t, "weight")
	for _, x := range []struct {
		l    api.Ladder
		n    int
		sign string
		want api.Ratio
		e    api.Errno
	}{
		{weight, 90, "gin", r(1, 2), api.OK}, {weight, 0, "gun", r(0, 1), api.OK}, {weight, 7, "sze", r(7, 1), api.OK}, {weight, 1080, "gin", r(6, 1), api.OK}, {weight, 1, "gun", r(1, 648000), api.OK}, {weight, 1 << 40, "sze", r(1<<40, 1), api.OK},
		{weight, 1, "none", r(0, 0), api.ErrUnit}, {weight, -1, "none", r(0, 0), api.ErrUnit}, {weight, 1, "n01", r(0, 0), api.ErrUnit}, {weight, -1, "gin", r(0, 0), api.ErrRange}, {weight, 1<<40 + 1, "sze", r(0, 0), api.ErrRange}, {deep(), leastInt, "u08", r(0, 0), api.ErrRange}, {deep(), mostInt, "u08", r(0, 0), api.ErrRange},
		{deep(), 1, "u08", r(0, 0), api.ErrBig}, {deep(), 1 << 20, "u08", r(1, 1<<20), api.OK}, {deep(), 1 << 19, "u08", r(0, 0), api.ErrBig}, {deep(), 1 << 40, "u08", r(1, 1), api.OK}, {deep(), 1, "u04", r(1, 1<<20), api.OK}, {deep(), 1<<40 - 1, "u05", r(0, 0), api.ErrBig},
	} {
		q, e := metro.In(x.l, x.n, x.sign)
		expect(t, fmt.Sprintf("In(%s, %d, %q)", x.l.Name, x.n, x.sign), q, e, x.want, x.e)
	}
}

// P1.7
func TestRound(t *testing.T) {
	weight, nine := standard(t, "weight"), ladder("nine", 1, 9)
	for _, x := range []struct {
		l    api.Ladder
		n    int
		sign string
		want int
		e    api.Errno
	}{
		{weight, 90, "gin", 180, api.OK}, {weight, 89, "gin", 0, api.OK}, {weight, 0, "gin", 0, api.OK}, {weight, 180, "gin", 180, api.OK}, {weight, 269, "gin", 180, api.OK}, {weight, 270, "gin", 360, api.OK}, {weight, 77, "sze", 77, api.OK}, {weight, 1 << 40, "sze", 1 << 40, api.OK},
		{nine, 4, "u01", 0, api.OK}, {nine, 5, "u01", 9, api.OK}, {nine, 13, "u01", 9, api.OK}, {nine, 14, "u01", 18, api.OK}, {nine, 1<<40 - 3, "u01", 1<<40 - 7, api.OK}, {nine, 1<<40 - 2, "u01", 0, api.ErrBig}, {nine, 1 << 40, "u01", 0, api.ErrBig},
		{deep(), 1 << 39, "u08", 1 << 40, api.OK}, {deep(), 1<<39 - 1, "u08", 0, api.OK}, {deep(), 1 << 40, "u08", 1 << 40, api.OK}, {deep(), 1<<40 - 1, "u07", 1 << 40, api.OK},
		{weight, 1, "none", 0, api.ErrUnit}, {weight, -1, "none", 0, api.ErrUnit}, {weight, -1, "gin", 0, api.ErrRange}, {weight, 1<<40 + 1, "gin", 0, api.ErrRange}, {nine, 1<<40 + 1, "u01", 0, api.ErrRange}, {weight, leastInt, "gin", 0, api.ErrRange}, {weight, mostInt, "gin", 0, api.ErrRange},
	} {
		n, e := metro.Round(x.l, x.n, x.sign)
		expect(t, fmt.Sprintf("Round(%s, %d, %q)", x.l.Name, x.n, x.sign), n, e, x.want, x.e)
	}
}

// P1.7: no multiple is nearer, and of two that are equally near it is the greater one.
func TestRoundIsNearest(t *testing.T) {
	for _, value := range []int{2, 3, 7, 10} {
		l := ladder("a", 1, value)
		for n := range 50 {
			m, e := metro.Round(l, n, "u01")
			if e != api.OK || m%value != 0 || 2*(n-m) >= value || 2*(m-n) > value {
				t.Errorf("Round(%d) to multiples of %d: %d, error %d", n, value, m, e)
			}
		}
	}
}

func someNumbers() []int {
	return []int{0, 1, 2, 9, 10, 59, 60, 61, 359, 360, 947, 3599, 3600, 12345, 648000, 1<<20 - 1, 987654321, 1<<39 + 12345, 1<<40 - 1, 1 << 40}
}

// P1.15
func TestTotalOfSplit(t *testing.T) {
	for _, l := range validLadders() {
		for _, n := range someNumbers() {
			counts, e := metro.Split(l, n)
			m, f := metro.Total(l, counts)
			if e != api.OK || f != api.OK || m != n || len(counts) != len(l.Units) {
				t.Errorf("Split(%s, %d): %v, error %d, of which Total is %d, error %d", l.Name, n, counts, e, m, f)
			}
			expectCarry(t, l, counts, counts, make([]int, len(counts)-1), api.OK)
		}
	}
}

// P1.15
func TestCarryChangesNoTotal(t *testing.T) {
	for _, l := range validLadders() {
		for i := range len(l.Units) + 1 {
			counts := make([]int, i)
			for j := range counts {
				counts[j] = (j*j*37 + 11*i) % 157
			}
			total, e := metro.Total(l, counts)
			canonical, carries, f := metro.Carry(l, counts)
			if e != f || e != api.OK && e != api.ErrBig {
				t.Errorf("%s, %v: error %d of Total, %d of Carry", l.Name, counts, e, f)
			}
			if e != api.OK {
				continue
			}
			n, _ := metro.Total(l, canonical)
			expect(t, fmt.Sprintf("Total(%s, %v) after Carry", l.Name, counts), n, f, total, api.OK)
			expectBalance(t, l, counts, canonical, carries)
		}
	}
}

// expectBalance: each count plus the carry into its unit is the canonical count plus what is carried out of it.
func expectBalance(t *testing.T, l api.Ladder, counts, canonical, carries []int) {
	t.Helper()
	if len(canonical) != len(l.Units) || len(carries) != len(l.Units)-1 {
		t.Fatalf("Carry(%s, %v): %v, carries %v", l.Name, counts, canonical, carries)
	}
	for i := range canonical {
		have, want := 0, canonical[i]
		if i < len(counts) {
			have = counts[i]
		}
		if i > 0 {
			have += carries[i-1]
		}
		if i < len(carries) {
			want += carries[i] * l.Units[i+1].Factor
		}
		if have != want {
			t.Errorf("Carry(%s, %v): %v, carries %v do not balance at unit %d", l.Name, counts, canonical, carries, i)
		}
	}
}

// P1.13
func TestLadderMemory(t *testing.T) {
	metro.Standard()[2].Units[0] = api.Unit{Sign: "other", Factor: 7}
	if u := metro.Standard()[2].Units[0]; u != (api.Unit{Sign: "n39", Factor: 1}) {
		t.Errorf("a changed result changes the standard ladders: %v", u)
	}
	grain, counts := standard(t, "grain"), []int{7, 8, 9, -4, -5, -6, -7}
	kept := slices.Clone(counts)
	units := slices.Clone(grain.Units)
	metro.Total(grain, counts[:3])
	canonical, carries, _ := metro.Carry(grain, counts[:3])
	if !slices.Equal(counts, kept) || !slices.Equal(grain.Units, units) {
		t.Errorf("arguments were changed: %v, %v", counts, grain.Units)
	}
	for i := range canonical[:cap(canonical)] {
		canonical[:cap(canonical)][i] = -1
	}
	if !slices.Equal(carries, []int{1, 1, 1, 0, 0}) || !slices.Equal(counts, kept) {
		t.Errorf("the canonical counts share memory with the carries, or with the argument: %v, %v", carries, counts)
	}
	parts := []api.Ratio{r(6, 1), r(1, 4), r(2, 4)}
	metro.Product(parts[:2])
	if !slices.Equal(parts, []api.Ratio{r(6, 1), r(1, 4), r(2, 4)}) {
		t.Errorf("Product changed its argument: %v", parts)
	}
}
