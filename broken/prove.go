package broken

import (
	"iter"

	"bulla/api"
	"bulla/metro"
)

// prover finds the steps of a proof.
type prover struct {
	walk
	steps []api.Step
}

// Prove returns a proof of what the completions are.
func Prove(k *metro.Book, p api.Puzzle) ([]api.Step, api.Errno) {
	s, e := newStudy(k, p)
	if e != api.OK {
		return nil, e
	}
	x := prover{walk: newWalk(s)}
	for !x.ended && !x.tooLong() {
		x.narrowAll()
		x.finish()
	}
	if x.tooLong() {
		return nil, api.ErrLimit
	}
	return x.steps, api.OK
}

func (x *prover) tooLong() bool { return len(x.steps) > api.MaxProof }

// narrowAll adds the steps of rounds, until a round has none or the branch is closed. Rounds can be very many: it gives up when the proof is too long.
func (x *prover) narrowAll() {
	for before := -1; before < len(x.steps) && !x.now.closed && !x.tooLong(); {
		before = len(x.steps)
		for step := range x.round() {
			if x.narrows(step) {
				x.steps = append(x.steps, step)
			}
			if x.now.closed {
				break
			}
		}
	}
}

// round produces the steps that are tried in a round.
func (x *prover) round() iter.Seq[api.Step] {
	return func(yield func(api.Step) bool) {
		for i, r := range x.Rules {
			if !yield(api.Step{Kind: api.StepSum, Rule: i, Cell: r.Total}) {
				return
			}
			for _, part := range r.Parts {
				if !yield(api.Step{Kind: api.StepSum, Rule: i, Cell: part}) {
					return
				}
			}
		}
		for cell := range x.Cells {
			if !yield(api.Step{Kind: api.StepFit, Cell: cell}) {
				return
			}
		}
	}
}

// narrows does a step of a round, and reports whether it changed a range.
func (x *prover) narrows(step api.Step) bool {
	if step.Kind == api.StepSum {
		return x.narrowBySum(step.Rule, step.Cell)
	}
	return x.narrowByFit(step.Cell)
}

// finish adds the step after the rounds: it ends the branch, or splits it.
func (x *prover) finish() {
	if x.now.closed {
		x.end(api.StepClosed)
		return
	}
	for cell := range x.Cells {
		low, high := x.now.low[cell], x.now.high[cell]
		if low < high {
			at := (low + high) / 2
			x.steps = append(x.steps, api.Step{Kind: api.StepSplit, Cell: cell, At: at})
			x.split(cell, at)
			return
		}
	}
	x.end(api.StepPoint)
}

// end ends the branch with a step.
func (x *prover) end(kind int) {
	x.steps = append(x.steps, api.Step{Kind: kind})
	x.next()
}
