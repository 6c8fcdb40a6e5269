package broken

import (
	"slices"

	"bulla/api"
	"bulla/metro"
)

// reader reads a proof, and finds the completions that it leaves.
type reader struct {
	walk
	left [][]int
}

// Verify returns the completions that a proof leaves.
func Verify(k *metro.Book, p api.Puzzle, x []api.Step) ([][]int, api.Errno) {
	s, e := newStudy(k, p)
	switch {
	case e != api.OK:
		return nil, e
	case len(x) > api.MaxProof:
		return nil, api.ErrLimit
	}
	r := reader{walk: newWalk(s)}
	if !r.accepts(x) {
		return nil, api.ErrProof
	}
	slices.SortFunc(r.left, slices.Compare)
	return r.left, api.OK
}

// accepts reads the steps, and reports whether they are a proof that is accepted.
func (r *reader) accepts(steps []api.Step) bool {
	read := [...]func(api.Step) bool{api.StepSum: r.readSum, api.StepFit: r.readFit, api.StepSplit: r.readSplit, api.StepPoint: r.readPoint, api.StepClosed: r.readClosed}
	for _, step := range steps {
		if r.ended || step.Kind < api.StepSum || step.Kind >= len(read) || !read[step.Kind](step) {
			return false
		}
	}
	return r.ended
}

// Each of the following methods reads a step of one kind, and reports whether what it says is true.

func (r *reader) readSum(step api.Step) bool {
	if r.now.closed || step.Rule < 0 || step.Rule >= len(r.Rules) || step.At != 0 {
		return false
	}
	rule := r.Rules[step.Rule]
	if step.Cell != rule.Total && !slices.Contains(rule.Parts, step.Cell) {
		return false
	}
	r.narrowBySum(step.Rule, step.Cell)
	return true
}

func (r *reader) readFit(step api.Step) bool {
	if r.now.closed || !r.isCell(step.Cell) || step.Rule != 0 || step.At != 0 {
		return false
	}
	r.narrowByFit(step.Cell)
	return true
}

func (r *reader) readSplit(step api.Step) bool {
	if r.now.closed || !r.isCell(step.Cell) || step.Rule != 0 {
		return false
	}
	if step.At < r.now.low[step.Cell] || step.At >= r.now.high[step.Cell] {
		return false
	}
	r.split(step.Cell, step.At)
	return true
}

func (r *reader) readPoint(step api.Step) bool {
	low, high := r.now.low[:len(r.Cells)], r.now.high[:len(r.Cells)]
	if step != (api.Step{Kind: api.StepPoint}) || !slices.Equal(low, high) || !r.isCompletion(low) {
		return false
	}
	r.left = append(r.left, slices.Clone(low))
	r.next()
	return true
}

func (r *reader) readClosed(step api.Step) bool {
	if step != (api.Step{Kind: api.StepClosed}) || !r.now.closed {
		return false
	}
	r.next()
	return true
}
