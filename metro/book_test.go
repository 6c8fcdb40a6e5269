package metro_test

import (
	"fmt"
	"slices"
	"testing"

	"bulla/api"
	"bulla/metro"
)

// P1.8
func TestNoBook(t *testing.T) {
	for call, k := range map[string]*metro.Book{"a nil book": nil, "a zero book": {}} {
		expectList(t, call, k.Names(), api.OK, nil, api.OK)
		for _, name := range []string{"count", "", "none"} {
			expectList(t, call, k.Group(name), api.OK, nil, api.OK)
			l, e := k.Ladder(name)
			expect(t, call, l.Name, e, "", api.ErrNil)
			expectList(t, call, l.Units, e, nil, api.ErrNil)
			q, e := k.Factor(name, "count")
			expect(t, call, q, e, api.Ratio{}, api.ErrNil)
			for _, names := range [][]string{nil, {name}, make([]string, 65)} {
				q, e = k.Chain(names)
				expect(t, call, q, e, api.Ratio{}, api.ErrNil)
			}
			for _, n := range []int{0, 1, -1} {
				q, e = k.Convert(amount(name, n), "count")
				expect(t, call, q, e, api.Ratio{}, api.ErrNil)
				expectWhole(t, k, amount(name, n), "count", api.Amount{}, api.Ratio{}, api.ErrNil)
			}
		}
	}
}

func expectWhole(t *testing.T, k *metro.Book, a api.Amount, to string, want api.Amount, wantRest api.Ratio, wantError api.Errno) {
	t.Helper()
	q, rest, e := k.Whole(a, to)
	call := fmt.Sprintf("Whole(%v, %s)", a, to)
	expect(t, call, q, e, want, wantError)
	expect(t, call+", the rest", rest, e, wantRest, wantError)
}

func expectBook(t *testing.T, call string, l []api.Ladder, b []api.Bridge, want api.Errno) {
	t.Helper()
	k, e := metro.NewBook(l, b)
	if e != want || (k == nil) != (want != api.OK) {
		t.Errorf("NewBook with %s: a book %v, error %d; want error %d", call, k != nil, e, want)
	}
}

// many returns n ladders of one unit.
func many(n int) []api.Ladder {
	var l []api.Ladder
	for i := range n {
		l = append(l, ladder("l"+string(rune('a'+i/26))+string(rune('a'+i%26)), 1))
	}
	return l
}

// P1.9
func TestNewBookLimits(t *testing.T) {
	same := bridge("laa", "u00", "laa", "u00", r(1, 1))
	expectBook(t, "nothing", nil, nil, api.OK)
	expectBook(t, "32 ladders and 64 bridges", many(32), slices.Repeat([]api.Bridge{same}, 64), api.OK)
	expectBook(t, "33 ladders", many(33), nil, api.ErrLimit)
	expectBook(t, "33 invalid ladders", make([]api.Ladder, 33), nil, api.ErrLimit)
	expectBook(t, "65 bridges", many(1), slices.Repeat([]api.Bridge{same}, 65), api.ErrLimit)
	expectBook(t, "65 invalid bridges", []api.Ladder{{}}, make([]api.Bridge, 65), api.ErrLimit)
	expectBook(t, "32 invalid ladders", make([]api.Ladder, 32), nil, api.ErrLadder)
	expectBook(t, "64 invalid bridges", nil, make([]api.Bridge, 64), api.ErrNone)
}

// P1.9
func TestNewBookLadders(t *testing.T) {
	a, b, bad := ladder("a", 1, 2), ladder("b", 1), ladder("a", 2)
	for _, l := range invalidLadders() {
		expectBook(t, fmt.Sprintf("the ladder %v", l), []api.Ladder{b, l}, nil, api.ErrLadder)
	}
	expectBook(t, "a ladder twice", []api.Ladder{a, b, a}, nil, api.ErrArg)
	expectBook(t, "a name twice", []api.Ladder{a, b, ladder("a", 1)}, nil, api.ErrArg)
	expectBook(t, "an invalid ladder with the name of an earlier one", []api.Ladder{a, b, bad}, nil, api.ErrLadder)
	expectBook(t, "a name twice, then an invalid ladder", []api.Ladder{a, a, bad}, nil, api.ErrArg)
	expectBook(t, "an invalid ladder, then a name twice", []api.Ladder{a, bad, a}, nil, api.ErrLadder)
	expectBook(t, "an invalid bridge and an invalid ladder", []api.Ladder{a, bad}, make([]api.Bridge, 1), api.ErrLadder)
	expectBook(t, "an invalid bridge and a name twice", []api.Ladder{a, a}, make([]api.Bridge, 1), api.ErrArg)
}

// P1.9
func TestNewBookBridges(t *testing.T) {
	for _, x := range []struct {
		b    api.Bridge
		want api.Errno
	}{
		{bridge("none", "x", "time", "x", r(0, 1)), api.ErrNone}, {bridge("time", "x", "none", "x", r(0, 1)), api.ErrNone}, {bridge("none", "n01", "none", "n01", r(1, 1)), api.ErrNone}, {api.Bridge{}, api.ErrNone},
		{bridge("time", "x", "grain", "n01", r(0, 1)), api.ErrUnit}, {bridge("time", "n01", "grain", "x", r(0, 1)), api.ErrUnit}, {bridge("grain", "n08", "time", "n39", r(2, 4)), api.ErrUnit}, {bridge("time", "n08", "grain", "n08", r(1, 0)), api.ErrUnit}, {bridge("count", "n39", "count", "n01", r(1, 1)), api.ErrUnit},
		{bridge("time", "n01", "grain", "n14", r(0, 1)), api.ErrArg}, {bridge("time", "n01", "grain", "n14", r(-5, 1)), api.ErrArg}, {bridge("time", "n01", "grain", "n14", r(10, 2)), api.ErrArg}, {bridge("time", "n01", "grain", "n14", api.Ratio{}), api.ErrArg}, {bridge("time", "n01", "grain", "n14", r(-5, -1)), api.ErrArg}, {bridge("count", "n01", "area", "n01", r(1<<40+1, 1)), api.ErrArg}, {bridge("count", "n01", "count", "n01", r(-1, 1)), api.ErrArg},
		{bridge("time", "n01", "grain", "n14", r(5, 1)), api.OK}, {bridge("grain", "n14", "time", "n01", r(1, 5)), api.OK}, {bridge("time", "n01", "grain", "n14", r(1, 5)), api.ErrBridge}, {bridge("grain", "n14", "time", "n01", r(5, 1)), api.ErrBridge}, {bridge("time", "n08", "grain", "n39", r(5, 1)), api.OK}, {bridge("time", "n57", "grain", "n01", r(360, 1)), api.OK}, {bridge("time", "n57", "grain", "n01", r(359, 1)), api.ErrBridge},
		{bridge("weight", "mana", "time", "n08", r(1, 15)), api.ErrBridge}, {bridge("weight", "gin", "time", "n08", r(1, 30)), api.OK}, {bridge("time", "n08", "weight", "gin", r(30, 1)), api.OK}, {bridge("time", "n08", "weight", "gin", r(1, 30)), api.ErrBridge},
		{bridge("count", "n14", "count", "n01", r(10, 1)), api.OK}, {bridge("count", "n01", "count", "n14", r(1, 10)), api.OK}, {bridge("count", "n14", "count", "n01", r(9, 1)), api.ErrBridge}, {bridge("count", "n14", "count", "n01", r(1, 10)), api.ErrBridge}, {bridge("count", "n01", "count", "n01", r(1, 1)), api.OK}, {bridge("weight", "gun", "weight", "gin", r(3600, 1)), api.OK},
		{bridge("count", "n01", "area", "n01", r(1<<40, 1)), api.OK}, {bridge("count", "n01", "area", "n01", r(1, 1<<20)), api.OK}, {bridge("count", "n01", "grain", "n01", r(7, 3)), api.OK},
	} {
		expectBook(t, fmt.Sprint(x.b), metro.Standard(), append(exampleBridges(), x.b), x.want)
	}
}

// P1.9: bridge by bridge, the first one with an error decides.
func TestNewBookOrder(t *testing.T) {
	first := bridge("time", "n01", "grain", "n14", r(5, 1))
	list := []api.Bridge{bridge("none", "n01", "grain", "n14", r(5, 1)), bridge("time", "x", "grain", "n14", r(5, 1)), bridge("time", "n01", "grain", "n14", r(0, 1)), bridge("time", "n01", "grain", "n14", r(4, 1)), first}
	errors := []api.Errno{api.ErrNone, api.ErrUnit, api.ErrArg, api.ErrBridge, api.OK}
	for i, x := range list {
		for j, y := range list {
			want := errors[i]
			if want == api.OK {
				want = errors[j]
			}
			expectBook(t, fmt.Sprintf("%v and %v", x, y), metro.Standard(), []api.Bridge{first, x, y}, want)
		}
	}
}

// steep is a book of ladders of which each unit is 2^40 units of the next ladder, and wide connections back.
func steep() ([]api.Ladder, []api.Bridge) {
	l := []api.Ladder{ladder("a", 1), ladder("b", 1), deep(), ladder("d", 1), ladder("e", 1), ladder("f", 1), ladder("g", 1), ladder("apart", 1)}
	most, least := r(1<<40, 1), r(1, 1<<20)
	return l, []api.Bridge{bridge("a", "u00", "b", "u00", most), bridge("b", "u00", "deep", "u00", most), bridge("deep", "u00", "d", "u00", least), bridge("e", "u00", "d", "u00", r(1<<20, 1)), bridge("e", "u00", "f", "u00", least), bridge("g", "u00", "f", "u00", r(1<<40, 1))}
}

// P1.9: factors are compared exactly, however great they are.
func TestNewBookGreatFactors(t *testing.T) {
	l, b := steep()
	for _, x := range []struct {
		b    api.Bridge
		want api.Errno
	}{
		{bridge("a", "u00", "deep", "u08", r(1<<40, 1)), api.OK}, {bridge("a", "u00", "deep", "u08", r(1<<40-1, 1)), api.ErrBridge}, {bridge("a", "u00", "deep", "u07", r(1<<40, 1)), api.ErrBridge}, {bridge("deep", "u08", "a", "u00", r(1, 1<<20)), api.ErrBridge}, {bridge("deep", "u04", "a", "u00", r(1, 1<<20)), api.ErrBridge},
		{bridge("a", "u00", "f", "u00", r(1<<20, 1)), api.OK}, {bridge("a", "u00", "f", "u00", r(1<<20+1, 1)), api.ErrBridge}, {bridge("f", "u00", "a", "u00", r(1, 1<<20)), api.OK}, {bridge("f", "u00", "a", "u00", r(1<<20, 1)), api.ErrBridge},
		{bridge("g", "u00", "a", "u00", r(1<<20, 1)), api.OK}, {bridge("g", "u00", "b", "u00", r(1<<40, 1)), api.ErrBridge}, {bridge("g", "u00", "deep", "u08", r(1<<40, 1)), api.ErrBridge}, {bridge("a", "u00", "g", "u00", r(1, 1<<20)), api.OK}, {bridge("a", "u00", "g", "u00", r(1, 1<<20-1)), api.ErrBridge},
	} {
		expectBook(t, fmt.Sprint(x.b), l, append(b[:len(b):len(b)], x.b), x.want)
	}
	// The factor from the first ladder to the last one has over a thousand binary digits, and one of a part among them must be seen.
	l, b = many(32), nil
	for i := range 31 {
		b = append(b, bridge(l[i].Name, "u00", l[i+1].Name, "u00", r(847288609443, 1<<20-5)))
	}
	for i := range 31 {
		expectBook(t, "the same bridge again", l, append(b[:len(b):len(b)], b[i]), api.OK)
		other := b[i]
		other.R.N--
		expectBook(t, "nearly the same bridge again", l, append(b[:len(b):len(b)], other), api.ErrBridge)
	}
	expectBook(t, "a bridge over all", l, append(b[:len(b):len(b)], bridge(l[0].Name, "u00", l[31].Name, "u00", r(1<<40, 1))), api.ErrBridge)
}

// P1.10
func TestNamesAndLadders(t *testing.T) {
	k := exampleBook(t)
	expectList(t, "Names", k.Names(), api.OK, []string{"count", "bisex", "grain", "area", "time", "weight"}, api.OK)
	expectList(t, "Names of the empty book", book(t, nil).Names(), api.OK, nil, api.OK)
	z := book(t, []api.Ladder{ladder("z", 1), ladder("a", 1, 7), ladder("m", 1)}, bridge("m", "u00", "z", "u00", r(1, 1)))
	expectList(t, "Names, as they were passed", z.Names(), api.OK, []string{"z", "a", "m"}, api.OK)
	expectList(t, "Group(m)", z.Group("m"), api.OK, []string{"z", "m"}, api.OK)
	for _, want := range metro.Standard() {
		l, e := k.Ladder(want.Name)
		expect(t, "Ladder", l.Name, e, want.Name, api.OK)
		expectList(t, "Ladder", l.Units, e, want.Units, api.OK)
	}
	for _, name := range []string{"none", "", "Count", "n01"} {
		l, e := k.Ladder(name)
		expect(t, "Ladder("+name+")", l.Name, e, "", api.ErrNone)
		expectList(t, "Ladder("+name+")", l.Units, e, nil, api.ErrNone)
		expectList(t, "Group("+name+")", k.Group(name), api.OK, nil, api.OK)
	}
	_, e := book(t, nil).Ladder("count")
	expect(t, "Ladder of the empty book", 0, e, 0, api.ErrNone)
}

// P1.10
func TestGroup(t *testing.T) {
	k := exampleBook(t)
	for _, name := range []string{"grain", "time", "weight"} {
		expectList(t, "Group("+name+")", k.Group(name), api.OK, []string{"grain", "time", "weight"}, api.OK)
	}
	for _, name := range []string{"count", "bisex", "area"} {
		expectList(t, "Group("+name+")", k.Group(name), api.OK, []string{name}, api.OK)
	}
	l, b := steep()
	expectList(t, "Group(g)", book(t, l, b...).Group("g"), api.OK, []string{"a", "b", "deep", "d", "e", "f", "g"}, api.OK)
	expectList(t, "Group of the empty book", book(t, nil).Group("count"), api.OK, nil, api.OK)
	two := book(t, metro.Standard(), append(exampleBridges(), bridge("bisex", "n01", "count", "n01", r(1, 1)))...)
	expectList(t, "Group(bisex)", two.Group("bisex"), api.OK, []string{"count", "bisex"}, api.OK)
	expectList(t, "Group(weight)", two.Group("weight"), api.OK, []string{"grain", "time", "weight"}, api.OK)
}

// P1.11
func TestFactor(t *testing.T) {
	l, b := steep()
	k, s := exampleBook(t), book(t, l, b...)
	for _, x := range []struct {
		k        *metro.Book
		from, to string
		want     api.Ratio
		e        api.Errno
	}{
		{k, "grain", "weight", r(1080, 1), api.OK}, {k, "weight", "grain", r(1, 1080), api.OK}, {k, "time", "weight", r(5400, 1), api.OK}, {k, "weight", "time", r(1, 5400), api.OK}, {k, "time", "grain", r(5, 1), api.OK}, {k, "count", "count", r(1, 1), api.OK}, {k, "time", "time", r(1, 1), api.OK},
		{k, "count", "grain", r(0, 0), api.ErrApart}, {k, "grain", "count", r(0, 0), api.ErrApart}, {k, "none", "grain", r(0, 0), api.ErrNone}, {k, "count", "none", r(0, 0), api.ErrNone}, {k, "none", "none", r(0, 0), api.ErrNone}, {k, "", "", r(0, 0), api.ErrNone},
		{s, "a", "b", r(1<<40, 1), api.OK}, {s, "a", "deep", r(0, 0), api.ErrBig}, {s, "b", "a", r(0, 0), api.ErrBig}, {s, "deep", "a", r(0, 0), api.ErrBig}, {s, "a", "d", r(0, 0), api.ErrBig}, {s, "a", "e", r(1<<40, 1), api.OK}, {s, "a", "f", r(1<<20, 1), api.OK}, {s, "f", "a", r(1, 1<<20), api.OK}, {s, "b", "e", r(1, 1), api.OK}, {s, "a", "g", r(1, 1<<20), api.OK}, {s, "g", "b", r(0, 0), api.ErrBig}, {s, "a", "apart", r(0, 0), api.ErrApart},
		{book(t, nil), "count", "count", r(0, 0), api.ErrNone},
	} {
		q, e := x.k.Factor(x.from, x.to)
		expect(t, fmt.Sprintf("Factor(%s, %s)", x.from, x.to), q, e, x.want, x.e)
	}
}

// P1.11
func TestChain(t *testing.T) {
	l, b := steep()
	k, s := exampleBook(t), book(t, l, b...)
	for _, x := range []struct {
		k     *metro.Book
		names []string
		want  api.Ratio
		e     api.Errno
	}{
		{k, []string{"time", "weight", "grain", "time"}, r(1, 1), api.OK}, {k, []string{"time", "grain"}, r(5, 1), api.OK}, {k, []string{"time", "weight", "grain"}, r(5, 1), api.OK}, {k, []string{"weight", "weight", "grain"}, r(1, 1080), api.OK}, {k, []string{"area"}, r(1, 1), api.OK}, {k, []string{"area", "area"}, r(1, 1), api.OK},
		{k, nil, r(0, 0), api.ErrArg}, {k, []string{}, r(0, 0), api.ErrArg}, {book(t, nil), nil, r(0, 0), api.ErrArg}, {k, slices.Repeat([]string{"area"}, 64), r(1, 1), api.OK}, {k, slices.Repeat([]string{"area"}, 65), r(0, 0), api.ErrLimit}, {k, slices.Repeat([]string{"none"}, 65), r(0, 0), api.ErrLimit}, {book(t, nil), []string{"area"}, r(0, 0), api.ErrNone},
		{k, []string{"none"}, r(0, 0), api.ErrNone}, {k, []string{"grain", "time", "none"}, r(0, 0), api.ErrNone}, {k, []string{"grain", "count", "none"}, r(0, 0), api.ErrNone}, {k, []string{"none", "grain"}, r(0, 0), api.ErrNone}, {k, []string{"grain", "", "grain"}, r(0, 0), api.ErrNone},
		{k, []string{"grain", "count"}, r(0, 0), api.ErrApart}, {k, []string{"grain", "count", "grain"}, r(0, 0), api.ErrApart}, {k, []string{"count", "grain", "weight"}, r(0, 0), api.ErrApart}, {k, []string{"grain", "weight", "area"}, r(0, 0), api.ErrApart},
		{s, []string{"a", "deep", "a"}, r(1, 1), api.OK}, {s, []string{"a", "deep", "e"}, r(1<<40, 1), api.OK}, {s, []string{"a", "b", "deep"}, r(0, 0), api.ErrBig}, {s, []string{"a", "e", "deep"}, r(0, 0), api.ErrBig}, {s, []string{"f", "b", "a"}, r(1, 1<<20), api.OK}, {s, []string{"a", "deep", "apart"}, r(0, 0), api.ErrApart},
		{s, append(slices.Repeat([]string{"a", "deep"}, 31), "f"), r(1<<20, 1), api.OK},
	} {
		q, e := x.k.Chain(x.names)
		expect(t, fmt.Sprintf("Chain(%v)", x.names), q, e, x.want, x.e)
	}
}

// P1.12
func TestConvert(t *testing.T) {
	l, b := steep()
	k, s := exampleBook(t), book(t, l, b...)
	for _, x := range []struct {
		k    *metro.Book
		a    api.Amount
		to   string
		want api.Ratio
		e    api.Errno
	}{
		{k, amount("weight", 1000), "grain", r(25, 27), api.OK}, {k, amount("grain", 7), "weight", r(7560, 1), api.OK}, {k, amount("grain", 0), "weight", r(0, 1), api.OK}, {k, amount("area", 1<<40), "area", r(1<<40, 1), api.OK}, {k, amount("weight", 5400), "time", r(1, 1), api.OK},
		{k, amount("none", -1), "grain", r(0, 0), api.ErrNone}, {k, amount("grain", -1), "none", r(0, 0), api.ErrNone}, {k, amount("", 1), "", r(0, 0), api.ErrNone}, {k, amount("weight", -1), "count", r(0, 0), api.ErrRange}, {k, amount("weight", 1<<40+1), "count", r(0, 0), api.ErrRange}, {k, amount("weight", leastInt), "weight", r(0, 0), api.ErrRange}, {k, amount("weight", mostInt), "weight", r(0, 0), api.ErrRange}, {k, amount("weight", 1), "count", r(0, 0), api.ErrApart}, {k, amount("weight", 0), "count", r(0, 0), api.ErrApart},
		{k, amount("grain", 1<<40), "weight", r(0, 0), api.ErrBig}, {k, amount("grain", 1<<40/1080), "weight", r(1<<40/1080*1080, 1), api.OK}, {k, amount("grain", 1<<40/1080+1), "weight", r(0, 0), api.ErrBig},
		{s, amount("a", 2), "b", r(0, 0), api.ErrBig}, {s, amount("a", 1), "b", r(1<<40, 1), api.OK}, {s, amount("a", 0), "deep", r(0, 1), api.OK}, {s, amount("deep", 0), "a", r(0, 1), api.OK}, {s, amount("a", 1), "deep", r(0, 0), api.ErrBig},
		{s, amount("b", 1), "a", r(0, 0), api.ErrBig}, {s, amount("b", 1<<20), "a", r(1, 1<<20), api.OK}, {s, amount("b", 1<<40), "a", r(1, 1), api.OK}, {s, amount("b", 3<<20), "a", r(3, 1<<20), api.OK}, {s, amount("b", 1<<19), "a", r(0, 0), api.ErrBig}, {s, amount("f", 1<<40), "a", r(1<<20, 1), api.OK}, {s, amount("deep", 1<<40), "a", r(0, 0), api.ErrBig},
		{book(t, nil), amount("", 0), "", r(0, 0), api.ErrNone},
	} {
		q, e := x.k.Convert(x.a, x.to)
		expect(t, fmt.Sprintf("Convert(%v, %s)", x.a, x.to), q, e, x.want, x.e)
		if x.e != api.OK {
			expectWhole(t, x.k, x.a, x.to, api.Amount{}, api.Ratio{}, x.e)
		}
	}
}

// P1.12
func TestWhole(t *testing.T) {
	k := exampleBook(t)
	expectWhole(t, k, amount("weight", 2000), "grain", amount("grain", 1), r(23, 27), api.OK)
	expectWhole(t, k, amount("weight", 1000), "grain", amount("grain", 0), r(25, 27), api.OK)
	expectWhole(t, k, amount("weight", 2160), "grain", amount("grain", 2), r(0, 1), api.OK)
	expectWhole(t, k, amount("weight", 0), "grain", amount("grain", 0), r(0, 1), api.OK)
	expectWhole(t, k, amount("area", 1<<40), "area", amount("area", 1<<40), r(0, 1), api.OK)
	expectWhole(t, k, amount("weight", 5399), "time", amount("time", 0), r(5399, 5400), api.OK)
}

// P1.13
func TestBookMemory(t *testing.T) {
	l, b := append(metro.Standard(), ladder("spare", 1)), append(exampleBridges(), api.Bridge{})
	kept := slices.Clone(b)
	k := book(t, l[:6], b[:2]...)
	if !slices.Equal(b, kept) || l[6].Name != "spare" {
		t.Errorf("NewBook changed its arguments: %v, %v", l, b)
	}
	l[2].Name, l[2].Units[1] = "other", api.Unit{Sign: "other", Factor: 2}
	b[0], b[1] = api.Bridge{}, api.Bridge{}
	names, group := k.Names(), k.Group("time")
	got, _ := k.Ladder("grain")
	names[0], group[0], got.Units[1].Factor = "other", "other", 59
	expectList(t, "Names", k.Names(), api.OK, []string{"count", "bisex", "grain", "area", "time", "weight"}, api.OK)
	expectList(t, "Group(time)", k.Group("time"), api.OK, []string{"grain", "time", "weight"}, api.OK)
	got, e := k.Ladder("grain")
	expectList(t, "Ladder(grain)", got.Units, e, standard(t, "grain").Units, api.OK)
	q, e := k.Factor("time", "weight")
	expect(t, "Factor(time, weight)", q, e, r(5400, 1), api.OK)
	chain := []string{"time", "grain", "weight", "spare"}
	k.Chain(chain[:2])
	expectList(t, "the names of a chain", chain, api.OK, []string{"time", "grain", "weight", "spare"}, api.OK)
}
