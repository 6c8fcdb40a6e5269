package broken_test

import (
	"math/rand/v2"
	"slices"
	"testing"

	"bulla/api"
	"bulla/metro"
	"bulla/numeral"
)

// A definition follows what the chapter says of proofs, word by word.
type definition struct {
	t       *testing.T
	k       *metro.Book
	p       api.Puzzle
	most    int
	numbers [][]int // of each cell: all up to most that fit
}

// newDefinition returns a definition in which no range may be greater than from 1 to most when a StepFit comes.
func newDefinition(t *testing.T, k *metro.Book, p api.Puzzle, most int) definition {
	t.Helper()
	d := definition{t: t, k: k, p: p, most: most}
	for _, c := range p.Cells {
		numbers, e := numeral.Candidates(ladderOf(t, k, c.Ladder), c.Trace, most, api.MaxFound)
		if e != api.OK {
			t.Fatalf("Candidates of %v: error %d", c, e)
		}
		d.numbers = append(d.numbers, numbers)
	}
	return d
}

// span is a range.
type span struct{ low, high int }

// start returns the ranges before a proof.
func (d definition) start() []span {
	d.t.Helper()
	var r []span
	for _, c := range d.p.Cells {
		if n, ok := valueOf(d.t, d.k, c); ok {
			r = append(r, span{n, n})
		} else {
			r = append(r, span{1, api.MaxNum})
		}
	}
	return r
}

// summed returns the range of a cell after a StepSum.
func (d definition) summed(r []span, rule, cell int) span {
	total := d.p.Rules[rule].Total
	low, high := 0, 0
	for _, part := range d.p.Rules[rule].Parts {
		if part != cell {
			low, high = low+r[part].low, high+r[part].high
		}
	}
	if cell != total {
		low, high = r[total].low-high, r[total].high-low
	}
	return span{max(low, r[cell].low), min(high, r[cell].high)}
}

// fitted returns the range of a cell after a StepFit.
func (d definition) fitted(r []span, cell int) span {
	d.t.Helper()
	s := r[cell]
	if s.high > d.most {
		d.t.Fatalf("a StepFit of %v", s)
	}
	isOut := func(n int) bool { return n < s.low || n > s.high }
	l := slices.DeleteFunc(slices.Clone(d.numbers[cell]), isOut)
	if len(l) == 0 {
		return span{s.low, s.low - 1}
	}
	return span{l[0], l[len(l)-1]}
}

func isEmpty(s span) bool { return s.low > s.high }

// step does a step of the kinds StepSum and StepFit, and returns false if it is none.
func (d definition) step(r []span, x api.Step) ([]span, bool) {
	d.t.Helper()
	var now span
	switch {
	case slices.ContainsFunc(r, isEmpty):
		return nil, false
	case x.Kind == api.StepSum && x.At == 0 && 0 <= x.Rule && x.Rule < len(d.p.Rules) && (x.Cell == d.p.Rules[x.Rule].Total || slices.Contains(d.p.Rules[x.Rule].Parts, x.Cell)):
		now = d.summed(r, x.Rule, x.Cell)
	case x.Kind == api.StepFit && x.At == 0 && x.Rule == 0 && 0 <= x.Cell && x.Cell < len(r):
		now = d.fitted(r, x.Cell)
	default:
		return nil, false
	}
	r = slices.Clone(r)
	r[x.Cell] = now
	return r, true
}

// parts returns the ranges in both parts of a split.
func parts(r []span, cell, at int) (lower, upper []span) {
	lower, upper = slices.Clone(r), slices.Clone(r)
	lower[cell].high, upper[cell].low = at, at+1
	return lower, upper
}

// values returns the numbers of ranges that contain only one each.
func values(r []span) ([]int, bool) {
	var v []int
	for _, s := range r {
		if s.low != s.high {
			return nil, false
		}
		v = append(v, s.low)
	}
	return v, true
}

// found returns the proof that is found for a branch.
func (d definition) found(r []span) []api.Step {
	d.t.Helper()
	var proof []api.Step
	try := func(x api.Step) {
		if slices.ContainsFunc(r, isEmpty) {
			return
		}
		now, ok := d.step(r, x)
		if !ok {
			d.t.Fatalf("%v is no step", x)
		}
		if !slices.Equal(now, r) {
			r, proof = now, append(proof, x)
		}
	}
	for before := -1; before != len(proof); {
		before = len(proof)
		for i, x := range d.p.Rules {
			try(sum(i, x.Total))
			for _, part := range x.Parts {
				try(sum(i, part))
			}
		}
		for i := range d.p.Cells {
			try(fit(i))
		}
		if slices.ContainsFunc(r, isEmpty) {
			return append(proof, closed())
		}
	}
	for i, s := range r {
		if s.low < s.high {
			at := (s.low + s.high) / 2
			lower, upper := parts(r, i, at)
			return append(append(append(proof, split(i, at)), d.found(lower)...), d.found(upper)...)
		}
	}
	return append(proof, point())
}

// leaves reads a branch, and returns the steps after it and what it leaves, or false if something in it is not true.
func (d definition) leaves(r []span, x []api.Step) (rest []api.Step, left [][]int, ok bool) {
	d.t.Helper()
	if len(x) == 0 {
		return nil, nil, false
	}
	switch first := x[0]; first.Kind {
	case api.StepSum, api.StepFit:
		if r, ok = d.step(r, first); !ok {
			return nil, nil, false
		}
		return d.leaves(r, x[1:])
	case api.StepSplit:
		if first.Rule != 0 || first.Cell < 0 || first.Cell >= len(r) || first.At < r[first.Cell].low || first.At >= r[first.Cell].high || slices.ContainsFunc(r, isEmpty) {
			return nil, nil, false
		}
		lower, upper := parts(r, first.Cell, first.At)
		rest, left, ok := d.leaves(lower, x[1:])
		if !ok {
			return nil, nil, false
		}
		rest, more, ok := d.leaves(upper, rest)
		return rest, append(left, more...), ok
	case api.StepPoint:
		v, ok := values(r)
		return x[1:], [][]int{v}, ok && first == point() && isCompletion(d.t, d.k, d.p, v)
	case api.StepClosed:
		return x[1:], nil, first == closed() && slices.ContainsFunc(r, isEmpty)
	}
	return nil, nil, false
}

// verified returns what a proof leaves, or false if it is not accepted.
func (d definition) verified(x []api.Step) ([][]int, bool) {
	d.t.Helper()
	rest, left, ok := d.leaves(d.start(), x)
	if !ok || len(rest) > 0 {
		return nil, false
	}
	slices.SortFunc(left, slices.Compare)
	return left, true
}

// narrowed returns a branch that is true: steps and splits at random, as long as they are allowed.
func (d definition) narrowed(random *rand.Rand, r []span) []api.Step {
	d.t.Helper()
	var proof []api.Step
	for {
		if slices.ContainsFunc(r, isEmpty) {
			return append(proof, closed())
		}
		if v, ok := values(r); ok && isCompletion(d.t, d.k, d.p, v) && random.IntN(3) > 0 {
			return append(proof, point())
		}
		cell := random.IntN(len(r))
		x := fit(cell)
		if i := slices.IndexFunc(d.p.Rules, func(x api.Rule) bool { return x.Total == cell || slices.Contains(x.Parts, cell) }); i >= 0 && random.IntN(2) == 0 {
			x = sum(i, cell)
		}
		if s := r[cell]; s.low < s.high && random.IntN(4) == 0 {
			at := s.low + random.IntN(min(20, s.high-s.low))
			lower, upper := parts(r, cell, at)
			return append(append(append(proof, split(cell, at)), d.narrowed(random, lower)...), d.narrowed(random, upper)...)
		}
		r, _ = d.step(r, x)
		proof = append(proof, x)
	}
}
