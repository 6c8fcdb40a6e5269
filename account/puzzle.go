package account

import (
	"cmp"
	"slices"

	"bulla/api"
	"bulla/metro"
	"bulla/numeral"
)

// CheckPuzzle checks a puzzle.
func CheckPuzzle(k *metro.Book, p api.Puzzle) api.Errno {
	if e := checkBook(k); e != api.OK {
		return e
	}
	if len(p.Cells) > api.MaxCells || len(p.Rules) > api.MaxRules {
		return api.ErrLimit
	}
	before := -1
	for _, c := range p.Cells {
		if e := checkCell(k, c, before); e != api.OK {
			return e
		}
		before = c.Case
	}
	if !rulesValid(p) {
		return api.ErrPuzzle
	}
	return api.OK
}

// checkCell returns the first error of a cell that stands after the one of the case before.
func checkCell(k *metro.Book, c api.Cell, before int) api.Errno {
	if c.Case <= before || c.Case >= api.MaxCases || !metro.IsName(c.Good) {
		return api.ErrPuzzle
	}
	if _, e := k.Ladder(c.Ladder); e != api.OK {
		return e
	}
	return numeral.Check(c.Trace)
}

func rulesValid(p api.Puzzle) bool {
	isTotal, isPart := make([]bool, len(p.Cells)), make([]bool, len(p.Cells))
	for _, r := range p.Rules {
		if r.Total < 0 || r.Total >= len(p.Cells) || isTotal[r.Total] {
			return false
		}
		isTotal[r.Total] = true
		before := -1
		for _, part := range r.Parts {
			if part <= before || part >= len(p.Cells) || p.Cells[part].Ladder != p.Cells[r.Total].Ladder {
				return false
			}
			isPart[part] = true
			before = part
		}
	}
	for i := range p.Cells {
		if isTotal[i] && isPart[i] {
			return false
		}
	}
	return true
}

// Read returns the values of all cells.
func Read(k *metro.Book, p api.Puzzle) ([]int, api.Errno) {
	if e := CheckPuzzle(k, p); e != api.OK {
		return nil, e
	}
	var v []int
	for _, c := range p.Cells {
		n, e := readCell(k, c)
		if e != api.OK {
			return nil, e
		}
		v = append(v, n)
	}
	return v, api.OK
}

// checkValued returns the first error of a puzzle and its values.
func checkValued(k *metro.Book, p api.Puzzle, v []int) api.Errno {
	return cmp.Or(CheckPuzzle(k, p), checkValues(p, v))
}

// checkValues returns ErrValue unless v are values for p.
func checkValues(p api.Puzzle, v []int) api.Errno {
	isNone := func(n int) bool { return !isValue(n) }
	if len(v) != len(p.Cells) || slices.ContainsFunc(v, isNone) {
		return api.ErrValue
	}
	return api.OK
}

func isValue(n int) bool { return 1 <= n && n <= api.MaxNum }

// Sums returns the sum of the parts of each rule.
func Sums(k *metro.Book, p api.Puzzle, v []int) ([]int, api.Errno) {
	if e := checkValued(k, p, v); e != api.OK {
		return nil, e
	}
	sums := sumsOf(p, v)
	if slices.ContainsFunc(sums, isTooBig) {
		return nil, api.ErrBig
	}
	return sums, api.OK
}

// sumsOf returns the sum of the parts of each rule, which may be greater than a value.
func sumsOf(p api.Puzzle, v []int) []int {
	var sums []int
	for _, r := range p.Rules {
		sum := 0
		for _, part := range r.Parts {
			sum += v[part]
		}
		sums = append(sums, sum)
	}
	return sums
}

// Wrong returns the rules that do not hold.
func Wrong(k *metro.Book, p api.Puzzle, v []int) ([]int, api.Errno) {
	if e := checkValued(k, p, v); e != api.OK {
		return nil, e
	}
	var wrong []int
	for i, sum := range sumsOf(p, v) {
		if sum != v[p.Rules[i].Total] {
			wrong = append(wrong, i)
		}
	}
	return wrong, api.OK
}
