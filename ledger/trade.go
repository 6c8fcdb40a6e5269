package ledger

import (
	"cmp"
	"slices"

	"bulla/api"
)

// none stands for a counterpart where there is none.
const none = -1

// trade matches the deals of one giver, one taker and the same lots. Those of the giver are outs, in their order; those of the taker are ins, by their days, so that each out may match the ins from its low up to, but not including, its high.
type trade struct {
	outs, ins   []side
	low, high   []int
	inOf, outOf []int // the counterpart of each out, and of each in
	order       []int // the ins in the order of the deals
	settled     []bool
	next        []int              // for each in, itself, or a later one up to which all have been tried
	find        func(out int) bool // finds an in for an out, where other outs may have to take other ins
}

func newTrade(outs, ins []side, days int) *trade {
	t := &trade{outs: outs, ins: slices.Clone(ins)}
	slices.SortFunc(t.ins, func(x, y side) int { return cmp.Compare(x.day, y.day) })
	for _, x := range outs {
		t.low = append(t.low, t.from(x.day))
		t.high = append(t.high, t.from(x.day+days+1))
		t.inOf = append(t.inOf, none)
	}
	for i := range t.ins {
		t.outOf = append(t.outOf, none)
		t.order = append(t.order, i)
	}
	slices.SortFunc(t.order, func(i, j int) int { return compareRefs(t.ins[i].ref, t.ins[j].ref) })
	t.settled = make([]bool, len(ins))
	t.next = make([]int, len(ins)+1)
	t.find = func(out int) bool {
		for in := t.untried(t.low[out]); in < t.high[out]; in = t.untried(in) {
			t.try(in)
			if t.outOf[in] == none || t.find(t.outOf[in]) {
				t.pair(out, in)
				return true
			}
		}
		return false
	}
	return t
}

// from returns the first in from a day on.
func (t *trade) from(day int) int {
	i, _ := slices.BinarySearchFunc(t.ins, day, func(x side, day int) int { return cmp.Compare(x.day, day) })
	return i
}

// matching returns the matching of the trade: starting from any one with as many pairs as possible, each out in turn is settled.
func (t *trade) matching() []api.Match {
	for out := range t.outs {
		t.forget()
		t.find(out)
	}
	var l []api.Match
	for out, x := range t.outs {
		t.settle(out)
		if in := t.inOf[out]; in != none {
			l = append(l, api.Match{Out: x.ref, In: t.ins[in].ref})
		}
	}
	return l
}

// settle gives an out its final in: the first one with which, besides the pairs that are settled, as many pairs as possible remain.
func (t *trade) settle(out int) {
	spare := t.remove(out)
	t.forget()
	for _, in := range t.order {
		if in < t.low[out] || in >= t.high[out] || t.untried(in) != in {
			continue
		}
		t.try(in)
		other := t.outOf[in]
		if other == none || spare || t.find(other) {
			if spare && other != none {
				t.inOf[other] = none
			}
			t.pair(out, in)
			t.settled[in] = true
			return
		}
	}
}

// remove leaves an out without an in, and reports whether there are as many pairs without it: then it may take any in, even from an out that finds no other one.
func (t *trade) remove(out int) bool {
	if t.inOf[out] == none {
		return true
	}
	t.outOf[t.inOf[out]], t.inOf[out] = none, none
	t.forget()
	for other := out + 1; other < len(t.outs); other++ {
		if t.inOf[other] == none && t.find(other) {
			return true
		}
	}
	return false
}

func (t *trade) pair(out, in int) { t.inOf[out], t.outOf[in] = in, out }

// forget begins a new search, in which only ins that are settled count as tried. A search that fails has not changed a pair, so that the ins that it tried need not be tried again until then.
func (t *trade) forget() {
	for in := range t.next {
		t.next[in] = in
	}
	for in, settled := range t.settled {
		if settled {
			t.try(in)
		}
	}
}

func (t *trade) try(in int) { t.next[in] = in + 1 }

// untried returns the first in from some place on that has not been tried. It shortens the way there, so that all ins that have been tried are not passed again and again.
func (t *trade) untried(in int) int {
	for t.next[in] != in {
		t.next[in] = t.next[t.next[in]]
		in = t.next[in]
	}
	return in
}
