package account_test

import (
	"fmt"
	"testing"

	"bulla/account"
	"bulla/api"
)

// memory is the memory of a list: how to overwrite it, also beyond its length, and what stands there.
type memory struct {
	spoil func()
	text  func() string
}

func memoryOf[T any](l []T, spoilt T, text func(T) string) memory {
	all := l[:cap(l)]
	return memory{
		func() {
			for i := range all {
				all[i] = spoilt
			}
		},
		func() string {
			s := ""
			for _, x := range all {
				s += text(x)
			}
			return s
		},
	}
}

func plain[T any](x T) string { return fmt.Sprint(x, ";") }

func memoryOfLots(l []api.Lot) memory { return memoryOf(l, api.Lot{Good: "spoilt", N: -7}, plain) }

func memoryOfNumbers(l []int) memory { return memoryOf(l, -7, plain) }

func memoryOfFixes(l []api.Fix) memory { return memoryOf(l, api.Fix{Cell: -7}, plain) }

func memoriesOfNumeral(n api.Numeral) []memory {
	spoilt := api.Group{Count: 77, Sign: "spoilt"}
	return []memory{memoryOf(n.Plus, spoilt, plain), memoryOf(n.Less, spoilt, plain)}
}

func memoriesOfTablet(x api.Tablet) []memory {
	own := func(c api.Case) string { return fmt.Sprint(c.Face, c.Column, c.Line, c.Kind, c.Good, ";") }
	l := []memory{memoryOf(x.Cases, api.Case{Good: "spoilt"}, own)}
	for _, c := range x.Cases {
		l = append(append(l, memoriesOfNumeral(c.Amount)...), memoryOf(c.Words, api.Word{Text: "spoilt"}, plain))
	}
	return l
}

func memoriesOfPuzzle(p api.Puzzle) []memory {
	cell := func(c api.Cell) string { return fmt.Sprint(c.Case, c.Good, c.Ladder, ";") }
	rule := func(r api.Rule) string { return fmt.Sprint(r.Total, ";") }
	l := []memory{memoryOf(p.Cells, api.Cell{Good: "spoilt"}, cell), memoryOf(p.Rules, api.Rule{Total: -7}, rule)}
	for _, c := range p.Cells {
		l = append(l, memoriesOfNumeral(c.Trace)...)
	}
	for _, r := range p.Rules {
		l = append(l, memoryOfNumbers(r.Parts))
	}
	return l
}

func memoriesOfGoods(g []api.Good) []memory {
	own := func(x api.Good) string { return fmt.Sprint(x.Name, x.Ladder, ";") }
	l := []memory{memoryOf(g, api.Good{Name: "spoilt"}, own)}
	for _, x := range g {
		l = append(l, memoryOf(x.Of, "spoilt", plain))
	}
	return l
}

// expectApart overwrites each list, and looks whether another one has changed.
func expectApart(t *testing.T, call string, l []memory) {
	t.Helper()
	for i, x := range l {
		var before []string
		for _, y := range l {
			before = append(before, y.text())
		}
		x.spoil()
		for j, y := range l {
			if i != j && y.text() != before[j] {
				t.Errorf("%s: the lists %d and %d share memory", call, i, j)
			}
		}
	}
}

// roomy returns a copy of a list with memory behind it.
func roomy[T any](l []T) []T { return append(make([]T, 0, len(l)+20), l...) }

func roomyNumeral(n api.Numeral) api.Numeral {
	return api.Numeral{Plus: roomy(n.Plus), Less: roomy(n.Less)}
}

// given are arguments, with memory behind each list.
type given struct {
	g    []api.Good
	x    api.Tablet
	p    api.Puzzle
	v    []int
	f    []api.Fix
	a, b []api.Lot
}

func roomyArguments(t *testing.T) given {
	t.Helper()
	y := given{g: roomy(sampleGoods()), x: parsed(t, sample), v: roomy(sampleValues()), f: roomy(fixes(fix(5, 2, 3, api.SlipLess), fix(6, 90, 7, api.SlipTotal))), a: roomy(lots("a", 1, "b", 2)), b: roomy(lots("b", -1, "c", 2))}
	for i := range y.g {
		y.g[i].Of = roomy(y.g[i].Of)
	}
	y.x.Cases[1].Amount = amount(t, "1(n14) la2 7(n01)")
	y.p, _ = account.Build(book(t), y.g, y.x)
	y.x.Cases = roomy(y.x.Cases)
	for i := range y.x.Cases {
		c := &y.x.Cases[i]
		c.Amount, c.Words = roomyNumeral(c.Amount), roomy([]api.Word{{Text: "a", State: api.WordIntact}})
	}
	y.p.Cells, y.p.Rules = roomy(y.p.Cells), roomy(y.p.Rules)
	for i := range y.p.Cells {
		y.p.Cells[i].Trace = roomyNumeral(y.p.Cells[i].Trace)
	}
	for i := range y.p.Rules {
		y.p.Rules[i].Parts = roomy(y.p.Rules[i].Parts)
	}
	return y
}

func (y given) memories() []memory {
	l := append(append(memoriesOfGoods(y.g), memoriesOfTablet(y.x)...), memoriesOfPuzzle(y.p)...)
	return append(l, memoryOfNumbers(y.v), memoryOfFixes(y.f), memoryOfLots(y.a), memoryOfLots(y.b))
}

// P5.11: arguments are only read.
func TestArguments(t *testing.T) {
	k, y := book(t), roomyArguments(t)
	count := ladderOf(t, k, "count")
	all := append(y.memories(), memoryOf(count.Units, api.Unit{}, plain))
	text := func() (s string) {
		for _, x := range all {
			s += x.text() + "\n"
		}
		return s
	}
	before := text()
	account.CheckLots(y.a)
	account.Add(y.a, y.b)
	account.Sub(y.a, y.b)
	account.Scale(y.a, 3)
	account.Covers(y.a, y.b)
	account.CheckGoods(k, y.g)
	account.Build(k, y.g, y.x)
	account.CheckPuzzle(k, y.p)
	account.Read(k, y.p)
	account.Entries(k, y.g, y.x)
	account.Sums(k, y.p, y.v)
	account.Wrong(k, y.p, y.v)
	account.Slips(count, 10)
	account.Cost(k, y.p, y.v, y.f)
	account.Apply(k, y.p, y.v, y.f)
	account.Repair(k, y.p, y.v, 3)
	account.Repairs(k, y.p, y.v, 3, 100)
	account.Correct(k, y.g, y.x, []int{61, 4, 5, 8, 31, 3, 91, 11})
	if after := text(); after != before {
		t.Errorf("arguments were changed: %s; before: %s", after, before)
	}
}

// P5.11: results are new memory, of which no two lists share any.
func TestResults(t *testing.T) {
	k := book(t)
	for range 2 { // what was spoilt in the first round must not be seen in the second one
		y := roomyArguments(t)
		p, e := account.Build(k, y.g, y.x)
		expect(t, "Build", len(p.Rules), e, 3, api.OK)
		expectApart(t, "Build", append(memoriesOfPuzzle(p), y.memories()...))
		y = roomyArguments(t)
		x, e := account.Correct(k, y.g, y.x, []int{60, 3, 5, 7, 30, 3, 90, 10})
		expect(t, "Correct", len(x.Cases), e, 8, api.OK)
		expectApart(t, "Correct", append(memoriesOfTablet(x), y.memories()...))
		y = roomyArguments(t)
		none, e := account.Add(y.a, nil)
		expect(t, "Add", none, e, y.a, api.OK)
		sum, e := account.Add(nil, y.a)
		expect(t, "Add", sum, e, y.a, api.OK)
		diff, e := account.Sub(y.a, nil)
		expect(t, "Sub", diff, e, y.a, api.OK)
		scaled, e := account.Scale(y.a, 1)
		expect(t, "Scale", scaled, e, y.a, api.OK)
		entries, e := account.Entries(k, y.g, y.x)
		expect(t, "Entries", entries, e, lots("barley", 90, "ewes", 5, "rams", 4), api.OK)
		expectApart(t, "lots", append(y.memories(), memoryOfLots(none), memoryOfLots(sum), memoryOfLots(diff), memoryOfLots(scaled), memoryOfLots(entries)))
	}
}

// P5.11: so are lists of numbers, slips and fixes.
func TestResultsOfPuzzles(t *testing.T) {
	k := book(t)
	for range 2 {
		y := roomyArguments(t)
		v, e := account.Read(k, y.p)
		expect(t, "Read", v, e, sampleValues(), api.OK)
		sums, e := account.Sums(k, y.p, y.v)
		expect(t, "Sums", sums, e, []int{7, 90, 9}, api.OK)
		wrong, e := account.Wrong(k, y.p, y.v)
		expect(t, "Wrong", wrong, e, []int{2}, api.OK)
		w, e := account.Apply(k, y.p, y.v, nil)
		expect(t, "Apply", w, e, sampleValues(), api.OK)
		f, e := account.Repair(k, y.p, y.v, 3)
		expect(t, "Repair", f, e, fixes(fix(5, 2, 3, api.SlipLess)), api.OK)
		slips, e := account.Slips(ladderOf(t, k, "count"), 10)
		expect(t, "Slips", len(slips), e, 8, api.OK)
		expectApart(t, "results", append(y.memories(), memoryOfNumbers(v), memoryOfNumbers(sums), memoryOfNumbers(wrong), memoryOfNumbers(w), memoryOfFixes(f), memoryOf(slips, api.Slip{}, plain)))
		q, values := puzzle(3, "lone", rule(2, 0, 1)), roomy([]int{2, 3, 7})
		all, e := account.Repairs(k, q, values, 3, 100)
		expect(t, "Repairs", len(all), e, 4, api.OK)
		l := append(memoriesOfPuzzle(q), memoryOfNumbers(values))
		for _, f := range all {
			l = append(l, memoryOfFixes(f))
		}
		expectApart(t, "Repairs", l)
		own := func(f []api.Fix) string { return fmt.Sprint(len(f), ";") }
		expectApart(t, "Repairs", append(l, memoryOf(all, nil, own)))
	}
}
