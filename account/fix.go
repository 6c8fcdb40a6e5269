package account

import (
	"slices"

	"bulla/api"
	"bulla/metro"
)

// What fixes cost.
const (
	slipCost  = 1 // a slip is corrected
	totalCost = 2 // a sum is added up anew
)

// Cost returns the cost of corrections.
func Cost(k *metro.Book, p api.Puzzle, v []int, f []api.Fix) (int, api.Errno) {
	if e := checkValued(k, p, v); e != api.OK {
		return 0, e
	}
	cost, before := 0, -1
	for _, x := range f {
		if x.Cell <= before || x.Cell >= len(v) || x.From != v[x.Cell] || x.To == x.From || !isValue(x.To) {
			return 0, api.ErrFix
		}
		if kind, ok := assumed(k, p, x); !ok || x.Kind != kind {
			return 0, api.ErrFix
		}
		cost, before = cost+costOf(x), x.Cell
	}
	return cost, api.OK
}

// assumed returns the kind of slip that a fix must assume, or false if there can be no such fix.
func assumed(k *metro.Book, p api.Puzzle, x api.Fix) (int, bool) {
	for _, slip := range slipsOf(k, p.Cells[x.Cell], x.From) {
		if slip.N == x.To {
			return slip.Kind, true
		}
	}
	isTotal := func(r api.Rule) bool { return r.Total == x.Cell }
	return api.SlipTotal, slices.ContainsFunc(p.Rules, isTotal)
}

// costOf returns what a fix costs.
func costOf(x api.Fix) int {
	if x.Kind == api.SlipTotal {
		return totalCost
	}
	return slipCost
}

// slipsOf returns the slips that may have led to the value of a cell.
func slipsOf(k *metro.Book, c api.Cell, n int) []api.Slip {
	l, e := k.Ladder(c.Ladder)
	if e != api.OK {
		return nil
	}
	slips, _ := Slips(l, n)
	return slips
}

// Apply corrects values.
func Apply(k *metro.Book, p api.Puzzle, v []int, f []api.Fix) ([]int, api.Errno) {
	if _, e := Cost(k, p, v, f); e != api.OK {
		return nil, e
	}
	corrected := slices.Clone(v)
	for _, x := range f {
		corrected[x.Cell] = x.To
	}
	return corrected, api.OK
}
