package account_test

import (
	"fmt"
	"math/rand/v2"
	"slices"
	"strings"
	"testing"

	"bulla/account"
	"bulla/api"
	"bulla/metro"
	"bulla/numeral"
	"bulla/tablet"
)

// P5.3: the chapter's example.
func TestSample(t *testing.T) {
	k := book(t)
	x := parsed(t, sample)
	p, e := account.Build(k, sampleGoods(), x)
	want := api.Puzzle{Rules: []api.Rule{rule(3, 1, 2), rule(6, 0, 4), rule(7, 1, 2, 5)}}
	for i, ladder := range strings.Fields("grain count count count grain count grain count") {
		want.Cells = append(want.Cells, api.Cell{Case: i, Good: x.Cases[i].Good, Ladder: ladder, Trace: x.Cases[i].Amount})
	}
	expect(t, "Build", p, e, want, api.OK)
	expectError(t, "CheckPuzzle", account.CheckPuzzle(k, p), api.OK)
	v, e := account.Read(k, p)
	expect(t, "Read", v, e, sampleValues(), api.OK)
	l, e := account.Entries(k, sampleGoods(), x)
	expect(t, "Entries", l, e, lots("barley", 90, "ewes", 5, "rams", 4), api.OK)
}

// P5.3: which cases are cells, and the rules of all kinds of sums.
func TestRules(t *testing.T) {
	k := book(t)
	goods := append(sampleGoods(), good("lambs", "count"), good("young", "count", "lambs"), good("all", "count", "ewes", "lambs", "rams"), good("oil", "grain"))
	for _, x := range []struct {
		lines string
		cases []int // of the cells
		rules []api.Rule
	}{
		{lines: ""},
		{lines: "note : a|entry 1(n01)|total 1(n01)|subtotal [...]"},
		{lines: "entry 1(n01) ; ewes|note|entry [...] ; rams : a|entry 1(n01)|entry 2+(zz) ; oil", cases: []int{0, 2, 4}},
		{lines: "total 1(n01) ; ewes|subtotal 1(n01) ; flock", cases: []int{0, 1}, rules: []api.Rule{rule(0), rule(1)}},
		{lines: "entry 1(n01) ; ewes|entry 1(n01)|total 1(n01) ; ewes|entry 1(n01) ; ewes", cases: []int{0, 2, 3}, rules: []api.Rule{rule(1, 0)}},
		// a second total counts from the first one on, subtotals do not matter for it
		{lines: "entry 1(n01) ; ewes|total 1(n01) ; ewes|entry 2(n01) ; ewes|subtotal 2(n01) ; ewes|total 2(n01) ; ewes|total 3(n01) ; flock|subtotal 1(n01) ; ewes", cases: []int{0, 1, 2, 3, 4, 5, 6},
			rules: []api.Rule{rule(1, 0), rule(3, 0, 2), rule(4, 2), rule(5, 0, 2), rule(6)}},
		// subtotals count from the subtotal of the same good, not from one of another good that has the same entries
		{lines: "entry 1(n01) ; ewes|subtotal 1(n01) ; ewes|entry 1(n01) ; rams|entry 1(n01) ; ewes|subtotal 1(n01) ; flock|subtotal 1(n01) ; ewes|subtotal 1(n01) ; all|entry 1(n01) ; rams|subtotal 1(n01) ; flock|subtotal 1(n01) ; rams", cases: []int{0, 1, 2, 3, 4, 5, 6, 7, 8, 9},
			rules: []api.Rule{rule(1, 0), rule(4, 0, 2, 3), rule(5, 3), rule(6, 0, 2, 3), rule(8, 7), rule(9, 2, 7)}},
		// a case whose good is not legible neither counts nor divides
		{lines: "entry 1(n01) ; lambs|subtotal 1(n01)|entry 1(n01) ; lambs|subtotal 1(n01) ; young|total 1(n01)|entry 1(n01) ; lambs|total 1(n01) ; young|total 1(n01) ; lambs", cases: []int{0, 2, 3, 5, 6, 7},
			rules: []api.Rule{rule(2, 0, 1), rule(4, 0, 1, 3), rule(5, 0, 1, 3)}},
		// sums are parts of nothing
		{lines: "entry 1(n01) ; oil|subtotal 1(n01) ; oil|entry 1(n01) ; oil|subtotal 1(n01) ; oil|total 1(n01) ; oil", cases: []int{0, 1, 2, 3, 4}, rules: []api.Rule{rule(1, 0), rule(3, 2), rule(4, 0, 2)}},
	} {
		var lines []string
		if x.lines != "" {
			lines = strings.Split(x.lines, "|")
		}
		p, e := account.Build(k, goods, onTablet(t, lines...))
		expect(t, "Build of "+x.lines, p.Rules, e, x.rules, api.OK)
		var cases []int
		for _, c := range p.Cells {
			cases = append(cases, c.Case)
		}
		expect(t, "cells of "+x.lines, cases, e, x.cases, api.OK)
	}
}

// P5.3: the errors of Build, which Entries and Correct return, too.
func TestBuildErrors(t *testing.T) {
	k := book(t)
	many := func(n int, line string, more ...string) api.Tablet {
		return onTablet(t, append(slices.Repeat([]string{line}, n), more...)...)
	}
	for _, x := range []struct {
		g []api.Good
		t api.Tablet
		e api.Errno
	}{
		{manyGoods(33), api.Tablet{}, api.ErrLimit},
		{[]api.Good{good("a", "none")}, api.Tablet{}, api.ErrNone},
		{[]api.Good{good("a", "count", "a")}, api.Tablet{}, api.ErrGood},
		{nil, api.Tablet{}, api.ErrHead},
		{sampleGoods(), api.Tablet{Name: "a", Cases: []api.Case{{}}}, api.ErrCase},
		{sampleGoods(), onTablet(t, "entry 1(n01) ; emmer", "entry 1(n01) ; flock"), api.ErrNone},
		{sampleGoods(), onTablet(t, "entry 1(n01) ; flock", "entry 1(n01) ; emmer"), api.ErrEntry},
		{sampleGoods(), onTablet(t, "total 1(n01) ; emmer"), api.ErrNone},
		{nil, parsed(t, sample), api.ErrNone},
		{sampleGoods(), many(65, "entry 1(n01) ; ewes"), api.ErrLimit},
		{sampleGoods(), many(65, "total 1(n01) ; ewes"), api.ErrLimit},
		{sampleGoods(), many(64, "entry 1(n01) ; ewes", "note", "total 1(n01)", "subtotal 1(n01) ; rams"), api.ErrLimit},
		{sampleGoods(), many(64, "entry 1(n01) ; ewes", "entry 1(n01) ; flock"), api.ErrEntry},
		{sampleGoods(), many(64, "entry 1(n01) ; ewes", "entry 1(n01) ; emmer"), api.ErrNone},
		{sampleGoods(), many(64, "entry 1(n01) ; ewes", "entry 1(n01) ; rams", "entry 1(n01) ; flock"), api.ErrLimit},
	} {
		call := fmt.Sprintf("of %.300s", show(x.t))
		p, e := account.Build(k, x.g, x.t)
		expectZero(t, "Build "+call, p, e, x.e)
		l, e := account.Entries(k, x.g, x.t)
		expectZero(t, "Entries "+call, l, e, x.e)
		y, e := account.Correct(k, x.g, x.t, nil)
		expectZero(t, "Correct "+call, y, e, x.e)
	}
	for _, line := range []string{"entry 1(n01) ; ewes", "total 1(n01) ; flock", "subtotal 1(n01) ; ewes"} {
		p, e := account.Build(k, sampleGoods(), many(64, line, slices.Repeat([]string{"note", "entry 1(n01)"}, 96)...))
		expect(t, "Build of 64 cells: "+line, len(p.Cells), e, 64, api.OK)
		expectError(t, "CheckPuzzle", account.CheckPuzzle(k, p), api.OK)
	}
	p, e := account.Build(k, manyGoods(32), many(200, "note", "entry 1(n01) ; g31"))
	expect(t, "Build of a late cell", p.Cells[0].Case, e, 200, api.OK)
}

// P5.5: Entries.
func TestEntries(t *testing.T) {
	k := book(t)
	for _, x := range []struct {
		lines string
		want  []api.Lot
		e     api.Errno
	}{
		{lines: "note|entry 1(n01)"},
		{lines: "entry 2(n14) ; rams|entry 2(n14) ; barley|entry 1(n14) la2 1(n01) ; rams|entry 1(n01) ; ewes", want: lots("barley", 60, "ewes", 1, "rams", 29)},
		// sums are not looked at, nor what has no good
		{lines: "entry 2(n14) ; rams|total [...] ; rams|total 3(zz) ; flock|subtotal 1(n01) 2(n14) ; barley|entry [...]|entry 1(zz)", want: lots("rams", 20)},
		{lines: "entry 2(n14) ; rams|entry 3+(n01) ; ewes|entry 1(zz) ; rams", e: api.ErrDamage},
		{lines: "entry 2(n14) ; rams|entry 1(zz) ; rams|entry 3+(n01) ; ewes", e: api.ErrUnit},
		{lines: "entry 1(n01) 1(n14) ; rams|entry 1(zz) ; rams", e: api.ErrUnordered},
		{lines: "entry 1(n14) la2 1(n14) ; ewes", e: api.ErrLess},
	} {
		l, e := account.Entries(k, sampleGoods(), onTablet(t, strings.Split(x.lines, "|")...))
		expect(t, "Entries of "+x.lines, l, e, x.want, x.e)
	}
	// one sign is worth 2 to the power 39
	far, e := metro.NewBook([]api.Ladder{ladder("far", 1, 32, 32, 32, 32, 32, 32, 32, 16)}, nil)
	expectError(t, "NewBook", e, api.OK)
	goods := []api.Good{good("x", "far"), good("y", "far")}
	l, e := account.Entries(far, goods, onTablet(t, "entry 1(i) ; y", "entry 1(i) ; y", "entry 1(i) ; x"))
	expect(t, "Entries of the greatest sum", l, e, lots("x", api.MaxNum/2, "y", api.MaxNum), api.OK)
	l, e = account.Entries(far, goods, onTablet(t, "entry 1(i) ; y", "entry 1(i) ; y", "entry 1(i) ; x", "entry 1(a) ; y"))
	expectZero(t, "Entries of too great a sum", l, e, api.ErrBig)
	l, e = account.Entries(far, goods, onTablet(t, slices.Repeat([]string{"entry 2(i) ; y"}, 64)...))
	expectZero(t, "Entries of the greatest entries", l, e, api.ErrBig)
	l, e = account.Entries(far, goods, onTablet(t, "entry 2(i) ; y", "entry 1(a) ; y", "entry 1(zz) ; x"))
	expectZero(t, "Entries of too great a sum and a numeral of other signs", l, e, api.ErrUnit)
	var lines []string
	for i := range 64 {
		lines = append(lines, fmt.Sprintf("entry %d(n01) ; g%02d", 1+i%9, 31-i%32))
	}
	l, e = account.Entries(k, manyGoods(32), onTablet(t, lines...))
	expect(t, "Entries of all goods", len(l), e, 32, api.OK)
	expectError(t, "CheckLots", account.CheckLots(l), api.OK)
}

// amounts returns the texts of all amounts.
func amounts(x api.Tablet) string {
	var l []string
	for _, c := range x.Cases {
		s, _ := numeral.Text(c.Amount)
		l = append(l, s)
	}
	return strings.Join(l, "|")
}

// P5.10: Correct.
func TestCorrect(t *testing.T) {
	k := book(t)
	goods := append(sampleGoods(), good("logs", "lone"))
	const before = "1(n01)|[...]|3+(n01)|1(zz)|1(n01) 1(n14)|2(n14) la2 1(n01)|99(n01)|2+(n14)"
	x := onTablet(t, "entry 1(n01) ; ewes : a [b]", "entry [...]", "entry 3+(n01) ; rams : -", "entry 1(zz) ; barley", "entry 1(n01) 1(n14) ; ewes", "entry 2(n14) la2 1(n01) ; rams", "entry 99(n01) ; ewes", "total 2+(n14) ; flock", "note : c")
	for _, c := range []struct {
		v    []int
		want string
	}{
		{[]int{1, 3, 1, 11, 19, 99, 20}, "1(n01)|[...]|3(n01)|1(n39)|1(n14) 1(n01)|2(n14) la2 1(n01)|99(n01)|2(n14)|"},
		{[]int{2, 4, 60, 1, 20, 98, 36000}, "2(n01)|[...]|4(n01)|2(n14)|1(n01)|2(n14)|1(n34) 3(n14) 8(n01)|1(n50)|"},
	} {
		y, e := account.Correct(k, goods, x, c.v)
		expect(t, fmt.Sprint("amounts with ", c.v), amounts(y), e, c.want, api.OK)
		for i := range y.Cases {
			y.Cases[i].Amount = x.Cases[i].Amount
		}
		expect(t, "the rest of the tablet", y, e, x, api.OK)
	}
	if amounts(x) != before+"|" {
		t.Errorf("the tablet was changed: %s", amounts(x))
	}
	y, e := account.Correct(k, goods, parsed(t, sample), []int{60, 3, 4, 7, 30, 3, 90, 10})
	expect(t, "the chapter's example", amounts(y), e, "2(n14)|3(n01)|4(n01)|7(n01)|1(n14)|3(n01)|3(n14)|1(n14)", api.OK)
	y, e = account.Correct(k, goods, onTablet(t, "note", "entry [...]"), nil)
	expect(t, "no cells", amounts(y), e, "|[...]", api.OK)
}

// P5.10: the errors of values, and of those that cannot be written.
func TestCorrectErrors(t *testing.T) {
	k := book(t)
	goods := append(sampleGoods(), good("logs", "lone"))
	for _, v := range [][]int{nil, sampleValues()[1:], append(sampleValues(), 1), {60, 3, 4, 7, 30, 2, 90, 0}, {60, 3, 4, 7, 30, 2, 90, api.MaxNum + 1}, {60, -3, 4, 7, 30, 2, 90, 10}, {leastInt, 3, 4, 7, 30, 2, 90, mostInt}} {
		y, e := account.Correct(k, goods, parsed(t, sample), v)
		expectZero(t, fmt.Sprint("Correct with ", v), y, e, api.ErrValue)
	}
	for _, x := range []struct {
		line string
		n    int
		e    api.Errno
	}{{"entry 1(a) ; logs", 99, api.OK}, {"entry 1(a) ; logs", 100, api.ErrCount}, {"entry [...] ; logs", 100, api.ErrCount}, {"total 1(zz) ; logs", api.MaxNum, api.ErrCount}, {"entry 1(n01) ; ewes", 3599999, api.OK}, {"entry 1(n01) ; ewes", 3600000, api.ErrCount}} {
		y, e := account.Correct(k, goods, onTablet(t, x.line, "entry 1(n01) ; ewes"), []int{x.n, 1})
		expect(t, fmt.Sprint("Correct of ", x.line, " to ", x.n), len(y.Cases) > 0, e, x.e == api.OK, x.e)
	}
}

// someTablet returns a tablet of entries and sums of the sample's goods.
func someTablet(t *testing.T, random *rand.Rand) api.Tablet {
	t.Helper()
	var lines []string
	for range random.IntN(30) {
		good := pick(random, "barley", "ewes", "rams")
		n := fmt.Sprintf("%d(n14) %d(n01)", 1+random.IntN(5), 1+random.IntN(4))
		lines = append(lines, pick(random, "entry "+n+" ; "+good, "entry "+n+" ; "+good, "entry "+n+" ; "+good, "subtotal "+n+" ; "+good, "total [...] ; flock", "note", "entry [...]"))
	}
	x := onTablet(t, lines...)
	for i := range x.Cases { // some lines and columns are missing
		x.Cases[i].Line += i + i/9
		x.Cases[i].Face = 1 + i/10
		x.Cases[i].Column += i % 10 / 5 * 3
	}
	return x
}

// P5.13: the lots of entries do not change when a tablet is renumbered; those of two parts add up to the whole.
func TestEntriesOfParts(t *testing.T) {
	k, random := book(t), newRandom()
	for range 300 {
		x := someTablet(t, random)
		whole, e := account.Entries(k, sampleGoods(), x)
		expectError(t, "Entries", e, api.OK)
		renumbered, e := tablet.Renumber(x)
		expectError(t, "Renumber", e, api.OK)
		again, e := account.Entries(k, sampleGoods(), renumbered)
		expect(t, "Entries of the renumbered tablet", again, e, whole, api.OK)
		a, b, e := tablet.Cut(x, random.IntN(len(x.Cases)+1))
		expectError(t, "Cut", e, api.OK)
		left, e := account.Entries(k, sampleGoods(), a)
		expectError(t, "Entries", e, api.OK)
		right, e := account.Entries(k, sampleGoods(), b)
		expectError(t, "Entries", e, api.OK)
		sum, e := account.Add(left, right)
		expect(t, "Entries of two parts", sum, e, whole, api.OK)
	}
}

// P5.3: the rules of tablets, compared with those that the definition finds for each sum by itself.
func TestRulesOfTablets(t *testing.T) {
	k, random := book(t), newRandom()
	plain := map[string]string{"barley": " barley ", "ewes": " ewes ", "rams": " rams ", "flock": " ewes rams "}
	for range 500 {
		x := someTablet(t, random)
		p, e := account.Build(k, sampleGoods(), x)
		expectError(t, "Build", e, api.OK)
		expectError(t, "CheckPuzzle", account.CheckPuzzle(k, p), api.OK)
		var rules []api.Rule
		for i, c := range p.Cells {
			kind := x.Cases[c.Case].Kind
			if kind == api.KindEntry {
				continue
			}
			r := rule(i)
			for j, d := range p.Cells[:i] {
				switch {
				case x.Cases[d.Case].Kind == kind && d.Good == c.Good:
					r.Parts = nil
				case x.Cases[d.Case].Kind == api.KindEntry && strings.Contains(plain[c.Good], " "+d.Good+" "):
					r.Parts = append(r.Parts, j)
				}
			}
			rules = append(rules, r)
		}
		expect(t, "rules", p.Rules, e, rules, api.OK)
	}
}
