package tablet

import (
	"iter"
	"slices"

	"bulla/api"
	"bulla/metro"
	"bulla/numeral"
)

// Find returns the index of the case at a place.
func Find(t api.Tablet, face, column, line int) (int, api.Errno) {
	if e := Check(t); e != api.OK {
		return 0, e
	}
	place := api.Case{Face: face, Column: column, Line: line}
	for i, c := range t.Cases {
		if comparePlaces(c, place) == 0 {
			return i, api.OK
		}
	}
	return 0, api.ErrNone
}

// Plan returns a face as it is seen.
func Plan(t api.Tablet, face int) ([][]int, api.Errno) {
	if e := Check(t); e != api.OK {
		return nil, e
	}
	if !isFace(face) {
		return nil, api.ErrArg
	}
	plan := emptyPlan(t, face)
	for i, c := range t.Cases {
		if c.Face == face {
			plan[c.Line-1][c.Column-1] = i
		}
	}
	if face == api.FaceReverse {
		for _, row := range plan {
			slices.Reverse(row)
		}
	}
	return plan, api.OK
}

// emptyPlan returns a plan of a face in which no case stands yet.
func emptyPlan(t api.Tablet, face int) [][]int {
	lines, columns := 0, 0
	for _, c := range t.Cases {
		if c.Face == face {
			lines, columns = max(lines, c.Line), max(columns, c.Column)
		}
	}
	var plan [][]int
	for range lines {
		plan = append(plan, slices.Repeat([]int{-1}, columns))
	}
	return plan
}

// words produces all words with their spots, in the order of reading.
func words(t api.Tablet) iter.Seq2[api.Spot, api.Word] {
	return func(yield func(api.Spot, api.Word) bool) {
		for i, c := range t.Cases {
			for j, w := range c.Words {
				if !yield(api.Spot{Case: i, Word: j}, w) {
					return
				}
			}
		}
	}
}

// Count counts words and amounts.
func Count(t api.Tablet) (api.Counts, api.Errno) {
	if e := Check(t); e != api.OK {
		return api.Counts{}, e
	}
	var n api.Counts
	for _, w := range words(t) {
		switch w.State {
		case api.WordIntact:
			n.Intact++
		case api.WordDamaged:
			n.Damaged++
		case api.WordRestored:
			n.Restored++
		case api.WordLost:
			n.Lost++
		case api.WordGap:
			n.Gaps++
		}
	}
	for _, c := range t.Cases {
		if c.Kind == api.KindNote {
			continue
		}
		n.Amounts++
		if numeral.Damaged(c.Amount) {
			n.Broken++
		}
	}
	return n, api.OK
}

// Names returns the names that occur as words.
func Names(t api.Tablet) ([]string, api.Errno) {
	if e := Check(t); e != api.OK {
		return nil, e
	}
	var names []string
	for _, w := range words(t) {
		if w.Text != "" {
			names = append(names, w.Text)
		}
	}
	slices.Sort(names)
	return slices.Compact(names), api.OK
}

// Where returns the spots of a name.
func Where(t api.Tablet, name string) ([]api.Spot, api.Errno) {
	if e := Check(t); e != api.OK {
		return nil, e
	}
	if !metro.IsName(name) {
		return nil, api.ErrArg
	}
	var spots []api.Spot
	for spot, w := range words(t) {
		if w.Text == name {
			spots = append(spots, spot)
		}
	}
	return spots, api.OK
}
