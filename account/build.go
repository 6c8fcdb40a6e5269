package account

import (
	"cmp"
	"slices"

	"bulla/api"
	"bulla/metro"
	"bulla/numeral"
	"bulla/tablet"
)

// Build returns the puzzle of a tablet.
func Build(k *metro.Book, g []api.Good, t api.Tablet) (api.Puzzle, api.Errno) {
	if e := cmp.Or(CheckGoods(k, g), tablet.Check(t)); e != api.OK {
		return api.Puzzle{}, e
	}
	var p api.Puzzle
	for i, c := range t.Cases {
		if c.Good == "" { // notes have no good
			continue
		}
		good, ok := goodNamed(g, c.Good)
		switch {
		case !ok:
			return api.Puzzle{}, api.ErrNone
		case c.Kind == api.KindEntry && !isPlain(good):
			return api.Puzzle{}, api.ErrEntry
		case len(p.Cells) == api.MaxCells:
			return api.Puzzle{}, api.ErrLimit
		}
		trace := api.Numeral{Plus: slices.Clone(c.Amount.Plus), Less: slices.Clone(c.Amount.Less)}
		p.Cells = append(p.Cells, api.Cell{Case: i, Good: c.Good, Ladder: good.Ladder, Trace: trace})
	}
	p.Rules = rulesOf(g, t, p.Cells)
	return p, api.OK
}

// rulesOf returns the rules of the cells of a tablet.
func rulesOf(g []api.Good, t api.Tablet, cells []api.Cell) []api.Rule {
	var rules []api.Rule
	subtotals, totals := map[string][]int{}, map[string][]int{} // by good: the entries that its next subtotal, or total, adds up
	for i, c := range cells {
		switch t.Cases[c.Case].Kind {
		case api.KindEntry:
			for _, x := range g {
				if takesIn(x, c.Good) {
					subtotals[x.Name] = append(subtotals[x.Name], i)
					totals[x.Name] = append(totals[x.Name], i)
				}
			}
		case api.KindSubtotal:
			rules = append(rules, closed(subtotals, c.Good, i))
		case api.KindTotal:
			rules = append(rules, closed(totals, c.Good, i))
		}
	}
	return rules
}

// closed returns the rule of a sum, after which the entries of its good are counted anew.
func closed(open map[string][]int, good string, total int) api.Rule {
	rule := api.Rule{Total: total, Parts: open[good]}
	delete(open, good)
	return rule
}

// Entries returns the lots of all entries of a tablet.
func Entries(k *metro.Book, g []api.Good, t api.Tablet) ([]api.Lot, api.Errno) {
	p, e := Build(k, g, t)
	if e != api.OK {
		return nil, e
	}
	var entries []api.Lot
	for _, c := range p.Cells {
		if t.Cases[c.Case].Kind != api.KindEntry {
			continue
		}
		n, e := readCell(k, c)
		if e != api.OK {
			return nil, e
		}
		entries = append(entries, api.Lot{Good: c.Good, N: n})
	}
	var lots []api.Lot
	for _, x := range entries {
		if lots, e = Add(lots, []api.Lot{x}); e != api.OK {
			return nil, e
		}
	}
	return lots, api.OK
}

// Correct writes values into a tablet where its amounts differ from them.
func Correct(k *metro.Book, g []api.Good, t api.Tablet, v []int) (api.Tablet, api.Errno) {
	p, e := Build(k, g, t)
	if e = cmp.Or(e, checkValues(p, v)); e != api.OK {
		return api.Tablet{}, e
	}
	corrected, _, e := tablet.Cut(t, len(t.Cases)) // a copy
	if e != api.OK {
		return api.Tablet{}, e
	}
	for i, c := range p.Cells {
		if n, e := readCell(k, c); e == api.OK && n == v[i] {
			continue
		}
		amount, e := writeCell(k, c, v[i])
		if e != api.OK {
			return api.Tablet{}, e
		}
		corrected.Cases[c.Case].Amount = amount
	}
	return corrected, api.OK
}

// readCell returns the value of what is written in a cell.
func readCell(k *metro.Book, c api.Cell) (int, api.Errno) {
	l, e := k.Ladder(c.Ladder)
	if e != api.OK {
		return 0, e
	}
	return numeral.Read(l, c.Trace)
}

// writeCell returns the numeral of a value of a cell.
func writeCell(k *metro.Book, c api.Cell, n int) (api.Numeral, api.Errno) {
	l, e := k.Ladder(c.Ladder)
	if e != api.OK {
		return api.Numeral{}, e
	}
	return numeral.Write(l, n)
}
