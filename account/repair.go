package account

import (
	"cmp"
	"slices"

	"bulla/api"
	"bulla/metro"
)

// Repair returns the first of the cheapest corrections that make an account add up.
func Repair(k *metro.Book, p api.Puzzle, v []int, most int) ([]api.Fix, api.Errno) {
	if e := cmp.Or(checkValued(k, p, v), inRange(most, 0, api.MaxCost)); e != api.OK {
		return nil, e
	}
	var best []api.Fix
	found := false
	for f := range newSearch(k, p, v).cheapest(most) {
		if !found || compareFixes(f, best) < 0 {
			best, found = f, true
		}
	}
	if !found {
		return nil, api.ErrNone
	}
	return best, api.OK
}

// Repairs returns all cheapest corrections that make an account add up.
func Repairs(k *metro.Book, p api.Puzzle, v []int, most, limit int) ([][]api.Fix, api.Errno) {
	if e := cmp.Or(checkValued(k, p, v), inRange(most, 0, api.MaxCost), inRange(limit, 1, api.MaxRepairs)); e != api.OK {
		return nil, e
	}
	var all [][]api.Fix
	for f := range newSearch(k, p, v).cheapest(most) {
		if len(all) == limit {
			return nil, api.ErrLimit
		}
		all = append(all, f)
	}
	if len(all) == 0 {
		return nil, api.ErrNone
	}
	slices.SortFunc(all, compareFixes)
	return all, api.OK
}

func inRange(n, least, most int) api.Errno {
	if n < least || n > most {
		return api.ErrRange
	}
	return api.OK
}

// compareFixes returns -1, 0 or 1: how corrections are ordered.
func compareFixes(a, b []api.Fix) int {
	return slices.CompareFunc(a, b, func(x, y api.Fix) int {
		return cmp.Or(cmp.Compare(x.Cell, y.Cell), cmp.Compare(x.To, y.To))
	})
}
