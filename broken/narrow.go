package broken

import (
	"maps"
	"slices"

	"bulla/api"
	"bulla/metro"
)

// Narrow returns, for each cell, all numbers that it has in some completion.
func Narrow(k *metro.Book, p api.Puzzle) ([][]int, api.Errno) {
	s, e := newStudy(k, p)
	if e != api.OK {
		return nil, e
	}
	all, e := s.every()
	if e != api.OK {
		return nil, e
	}
	numbers := make([][]int, len(s.Cells))
	for cell := range numbers {
		numbers[cell] = slices.Sorted(maps.Keys(countsOf(all, cell)))
	}
	return numbers, api.OK
}

// countsOf returns in how many completions a cell has which numbers.
func countsOf(all [][]int, cell int) map[int]int {
	counts := map[int]int{}
	for _, v := range all {
		counts[v[cell]]++
	}
	return counts
}

// Sure returns the numbers that are the same in all completions.
func Sure(k *metro.Book, p api.Puzzle) ([]int, api.Errno) {
	s, e := newStudy(k, p)
	if e != api.OK {
		return nil, e
	}
	all, e := s.completions()
	if e != api.OK {
		return nil, e
	}
	var sure []int
	found := false
	for v := range all {
		if !found {
			sure, found = slices.Clone(v), true
		}
		for cell, n := range v {
			if n != sure[cell] {
				sure[cell] = 0
			}
		}
	}
	if !found {
		return nil, api.ErrNone
	}
	return sure, api.OK
}

// Tally returns in how many completions a cell has which numbers.
func Tally(k *metro.Book, p api.Puzzle, cell int) ([]api.Tally, api.Errno) {
	s, e := newStudy(k, p)
	if e != api.OK {
		return nil, e
	}
	all, e := s.every()
	switch {
	case e != api.OK:
		return nil, e
	case !s.isCell(cell):
		return nil, api.ErrRange
	}
	counts := countsOf(all, cell)
	var tally []api.Tally
	for _, n := range slices.Sorted(maps.Keys(counts)) {
		tally = append(tally, api.Tally{N: n, Count: counts[n]})
	}
	return tally, api.OK
}

// Ask returns the cell that should be looked at next, and how many completions remain if its number is the one that rules out the fewest.
func Ask(k *metro.Book, p api.Puzzle) (cell, worst int, e api.Errno) {
	s, e := newStudy(k, p)
	if e != api.OK {
		return 0, 0, e
	}
	all, e := s.every()
	switch {
	case e != api.OK:
		return 0, 0, e
	case len(all) < 2:
		return 0, 0, api.ErrNone
	}
	worst = len(all) + 1
	for i := range s.Cells {
		greatest := 0
		for _, count := range countsOf(all, i) {
			greatest = max(greatest, count)
		}
		if greatest < worst {
			cell, worst = i, greatest
		}
	}
	return cell, worst, api.OK
}
