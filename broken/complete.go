package broken

import (
	"iter"
	"slices"

	"bulla/api"
	"bulla/metro"
)

// Count returns the number of completions.
func Count(k *metro.Book, p api.Puzzle) (int, api.Errno) {
	s, e := newStudy(k, p)
	if e != api.OK {
		return 0, e
	}
	all, e := s.completions()
	if e != api.OK {
		return 0, e
	}
	count := 0
	for range all {
		count++
	}
	return count, api.OK
}

// All returns all completions.
func All(k *metro.Book, p api.Puzzle, limit int) ([][]int, api.Errno) {
	s, e := newStudy(k, p)
	switch {
	case e != api.OK:
		return nil, e
	case limit < 1 || limit > api.MaxFound:
		return nil, api.ErrRange
	}
	found, e := s.some(limit + 1)
	switch {
	case e != api.OK:
		return nil, e
	case len(found) > limit:
		return nil, api.ErrLimit
	}
	slices.SortFunc(found, slices.Compare)
	return found, api.OK
}

// Only returns the only completion.
func Only(k *metro.Book, p api.Puzzle) ([]int, api.Errno) {
	s, e := newStudy(k, p)
	if e != api.OK {
		return nil, e
	}
	found, e := s.some(2)
	switch {
	case e != api.OK:
		return nil, e
	case len(found) == 0:
		return nil, api.ErrNone
	case len(found) > 1:
		return nil, api.ErrOpen
	}
	return found[0], api.OK
}

// some returns at most so many completions, in no special order.
func (s *study) some(most int) ([][]int, api.Errno) {
	all, e := s.completions()
	if e != api.OK {
		return nil, e
	}
	var found [][]int
	for v := range all {
		found = append(found, slices.Clone(v))
		if len(found) == most {
			break
		}
	}
	return found, api.OK
}

// every returns all completions, in no special order.
func (s *study) every() ([][]int, api.Errno) { return s.some(api.MaxChoice) }

// completions produces all completions, in no special order, or returns ErrLimit if the puzzle is too open. All are produced in one list, which changes from one to the next.
func (s *study) completions() (iter.Seq[[]int], api.Errno) {
	domains, choices, e := s.domains()
	if e != api.OK {
		return nil, e
	}
	return func(yield func([]int) bool) {
		if choices == 0 { // then other domains may be too many to be tried
			return
		}
		v, order := slices.Clone(s.values), s.order()
		// choose gives numbers to the damaged cells from one on, in every way. It returns false if no more completions are wanted.
		var choose func(next int) bool
		choose = func(next int) bool {
			if next == len(order) {
				return !s.rulesHold(v) || yield(v)
			}
			cell := order[next]
			if !s.isFree(cell) {
				v[cell] = s.determined(v, cell)
				return !s.fits(cell, v[cell]) || choose(next+1)
			}
			for _, n := range domains[cell] {
				v[cell] = n
				if !choose(next + 1) {
					return false
				}
			}
			return true
		}
		choose(0)
	}, api.OK
}

// order returns the damaged cells, each bound item and each sum after those that determine its number.
func (s *study) order() []int {
	var items, sums []int
	for cell := range s.Cells {
		switch {
		case !s.isDamaged(cell):
		case !s.isFree(cell) && s.binding(cell).Total == cell:
			sums = append(sums, cell)
		default:
			items = append(items, cell)
		}
	}
	return append(items, sums...)
}

// binding returns the rule that determines the number of a cell; there must be one.
func (s *study) binding(cell int) api.Rule { return s.Rules[s.binder[cell]] }

// determined returns the number of a cell with which its rule holds.
func (s *study) determined(v []int, cell int) int {
	r := s.binding(cell)
	sum := sumOf(v, r.Parts)
	if r.Total == cell {
		return sum
	}
	return v[r.Total] - (sum - v[cell])
}
