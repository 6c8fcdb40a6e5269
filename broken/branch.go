package broken

import "bulla/api"

// ranges are the ranges of all cells in a branch of a proof.
type ranges struct {
	low, high       [api.MaxCells]int
	lowSum, highSum [api.MaxRules]int // of the parts of each rule
	closed          bool              // whether a cell has no number left
}

// walk goes through the branches of a proof, as its steps do.
type walk struct {
	*study
	now   ranges
	later []ranges // the upper parts of splits that are still to come, the next one last
	ended bool     // whether no branch is left
}

func newWalk(s *study) walk {
	w := walk{study: s}
	for cell, n := range s.values {
		w.now.low[cell], w.now.high[cell] = n, n
		if s.isDamaged(cell) {
			w.now.low[cell], w.now.high[cell] = 1, api.MaxNum
		}
	}
	for i, r := range s.Rules {
		w.now.lowSum[i], w.now.highSum[i] = sumOf(w.now.low[:], r.Parts), sumOf(w.now.high[:], r.Parts)
	}
	return w
}

// narrow leaves of the range of a cell what is from low to high, and reports whether that changed it.
func (w *walk) narrow(cell, low, high int) bool {
	r := &w.now
	low, high = max(low, r.low[cell]), min(high, r.high[cell])
	if low == r.low[cell] && high == r.high[cell] {
		return false
	}
	for _, rule := range w.partOf[cell] {
		r.lowSum[rule] += low - r.low[cell]
		r.highSum[rule] += high - r.high[cell]
	}
	r.low[cell], r.high[cell] = low, high
	r.closed = r.closed || low > high
	return true
}

// narrowBySum narrows the range of a cell of a rule, and reports whether that changed it.
func (w *walk) narrowBySum(rule, cell int) bool {
	r, total := &w.now, w.Rules[rule].Total
	if cell == total {
		return w.narrow(cell, r.lowSum[rule], r.highSum[rule])
	}
	othersLow, othersHigh := r.lowSum[rule]-r.low[cell], r.highSum[rule]-r.high[cell]
	return w.narrow(cell, r.low[total]-othersHigh, r.high[total]-othersLow)
}

// narrowByFit narrows the range of a cell by its trace, and reports whether that changed it.
func (w *walk) narrowByFit(cell int) bool {
	low, high := w.now.low[cell], w.now.high[cell]
	least, ok := w.traces[cell].atLeast(low)
	if !ok || least > high {
		return w.narrow(cell, low, low-1)
	}
	greatest, _ := w.traces[cell].atMost(high)
	return w.narrow(cell, least, greatest)
}

// split goes on with the numbers of a cell up to at, and leaves the others for later.
func (w *walk) split(cell, at int) {
	lower := w.now
	w.narrow(cell, at+1, api.MaxNum)
	w.later = append(w.later, w.now)
	w.now = lower
	w.narrow(cell, 1, at)
}

// next goes on with the next branch, if one is left.
func (w *walk) next() {
	last := len(w.later) - 1
	if last < 0 {
		w.ended = true
		return
	}
	w.now, w.later = w.later[last], w.later[:last]
}
