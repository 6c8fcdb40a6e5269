package account

import (
	"cmp"
	"iter"
	"math/bits"
	"slices"

	"bulla/api"
	"bulla/metro"
)

// cells is a set of cells, one bit for each: there are at most 64 (MaxCells).
type cells uint64

func only(cell int) cells { return 1 << cell }

func (s cells) has(cell int) bool { return s&only(cell) != 0 }

// all produces the cells of a set, increasing.
func (s cells) all() iter.Seq[int] {
	return func(yield func(int) bool) {
		for rest := s; rest != 0; rest &= rest - 1 {
			if !yield(bits.TrailingZeros64(uint64(rest))) {
				return
			}
		}
	}
}

// search looks for corrections of the values of a puzzle.
type search struct {
	api.Puzzle
	values []int
	slips  [][]api.Fix   // of each cell: the fixes that assume a slip, by increasing To
	able   map[int]cells // by a number: the cells to whose values one of these adds it
	parts  []cells       // of each rule
	excess []int         // of each rule: by how much its total is greater than the sum of its parts
	tried  []api.Fix     // the fixes that are tried at present
}

func newSearch(k *metro.Book, p api.Puzzle, v []int) *search {
	s := &search{Puzzle: p, values: v, slips: make([][]api.Fix, len(v)), able: map[int]cells{}}
	for i, c := range s.Cells {
		for _, slip := range slipsOf(k, c, v[i]) {
			s.slips[i] = append(s.slips[i], api.Fix{Cell: i, From: v[i], To: slip.N, Kind: slip.Kind})
			s.able[slip.N-v[i]] |= only(i)
		}
	}
	for i, sum := range sumsOf(p, v) {
		var parts cells
		for _, part := range s.Rules[i].Parts {
			parts |= only(part)
		}
		s.parts = append(s.parts, parts)
		s.excess = append(s.excess, v[s.Rules[i].Total]-sum)
	}
	return s
}

// cheapest produces all corrections that make the account add up and have the smallest cost, which is at most most.
func (s *search) cheapest(most int) iter.Seq[[]api.Fix] {
	return func(yield func([]api.Fix) bool) {
		found := false
		for cost := 0; cost <= most && !found; cost++ {
			for f := range s.corrections(cost) {
				found = true
				if !yield(f) {
					return
				}
			}
		}
	}
}

// corrections produces all corrections that make the account add up and have that cost, if none are cheaper.
func (s *search) corrections(cost int) iter.Seq[[]api.Fix] {
	return func(yield func([]api.Fix) bool) {
		// try corrects the cells of the first rule that does not hold, each in its turn, as some fix must do so, and goes on with what is left of the cost. Cells that had their turn are shut, so that nothing is found twice. It returns false if no more is wanted.
		var try func(left int, shut cells) bool
		try = func(left int, shut cells) bool {
			rule, ok := s.wrong()
			switch {
			case !ok:
				return yield(s.ordered())
			case left == 0:
				return true
			}
			more := true
		turns:
			for cell := range s.turns(rule, left, shut) {
				shut |= only(cell)
				for _, fix := range s.choices(rule, cell, left) {
					s.do(fix)
					more = try(left-costOf(fix), shut)
					s.undo(fix)
					if !more {
						break turns
					}
				}
			}
			return more
		}
		try(cost, 0)
	}
}

// wrong returns the first rule that does not hold.
func (s *search) wrong() (rule int, ok bool) {
	for i, excess := range s.excess {
		if excess != 0 {
			return i, true
		}
	}
	return 0, false
}

// turns produces the cells of a rule that are not shut, without those that cannot make it hold if only a slip can be corrected. The total is the last one, as it is then known what its parts add up to.
func (s *search) turns(rule, left int, shut cells) iter.Seq[int] {
	parts, total := s.parts[rule]&^shut, only(s.Rules[rule].Total)&^shut
	if left == slipCost {
		parts &= s.able[s.excess[rule]]
		total &= s.able[-s.excess[rule]]
	}
	return func(yield func(int) bool) {
		for _, set := range []cells{parts, total} {
			for cell := range set.all() {
				if !yield(cell) {
					return
				}
			}
		}
	}
}

// choices returns the fixes of a cell in its turn. If nothing can be corrected after it in this rule, it must make the rule hold.
func (s *search) choices(rule, cell, left int) []api.Fix {
	slips, isTotal := s.slips[cell], cell == s.Rules[rule].Total
	if !isTotal && left > slipCost {
		return slips
	}
	to := s.values[cell] + s.excess[rule]
	if isTotal {
		to = s.values[cell] - s.excess[rule]
	}
	i, ok := slices.BinarySearchFunc(slips, to, func(x api.Fix, to int) int { return cmp.Compare(x.To, to) })
	switch {
	case ok:
		return slips[i : i+1]
	case isTotal && left >= totalCost && isValue(to):
		return []api.Fix{{Cell: cell, From: s.values[cell], To: to, Kind: api.SlipTotal}}
	}
	return nil
}

func (s *search) do(fix api.Fix) {
	s.tried = append(s.tried, fix)
	s.change(fix.Cell, fix.To-fix.From)
}

func (s *search) undo(fix api.Fix) {
	s.tried = s.tried[:len(s.tried)-1]
	s.change(fix.Cell, fix.From-fix.To)
}

// change follows what a change of the value of a cell means for the rules.
func (s *search) change(cell, by int) {
	for i, r := range s.Rules {
		switch {
		case r.Total == cell:
			s.excess[i] += by
		case s.parts[i].has(cell):
			s.excess[i] -= by
		}
	}
}

// ordered returns the fixes that are tried, by increasing cells.
func (s *search) ordered() []api.Fix {
	f := slices.Clone(s.tried)
	slices.SortFunc(f, func(a, b api.Fix) int { return cmp.Compare(a.Cell, b.Cell) })
	return f
}
