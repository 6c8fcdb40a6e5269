package broken_test

import (
	"fmt"
	"slices"
	"testing"

	"bulla/api"
	"bulla/broken"
	"bulla/metro"
	"bulla/numeral"
)

// P6.6: the chapter's examples, and others that are short.
func TestProve(t *testing.T) {
	k := book(t)
	for _, x := range []struct {
		p    api.Puzzle
		want []api.Step
	}{
		{sampleP(t), []api.Step{sum(0, 1), sum(1, 3), point()}},
		{sampleQ(t, "2(n01)"), []api.Step{sum(0, 0), sum(0, 1), fit(1), closed()}},
		{sampleQ(t, "3(n01)"), []api.Step{sum(0, 0), sum(0, 1), fit(1), sum(0, 0), point()}},
		{api.Puzzle{}, []api.Step{point()}},
		{on(t, "count", texts("1(n01)", "2(n14) la2 1(n01)")), []api.Step{point()}},
		{on(t, "count", texts("1(n01)"), rule(0)), []api.Step{sum(0, 0), closed()}},
		{on(t, "count", texts("[...]"), rule(0)), []api.Step{sum(0, 0), closed()}},
		{on(t, "count", texts("1(n01)", "2(n01)"), rule(0, 1)), []api.Step{sum(0, 0), closed()}},
		{on(t, "count", texts("2(n01)", "1(n01)"), rule(0, 1)), []api.Step{sum(0, 0), closed()}},
		{on(t, "count", texts("1+(zz)", "[...]")), []api.Step{fit(0), closed()}},
		{on(t, "count", texts("9+(n01)")), []api.Step{fit(0), point()}},
		{on(t, "count", texts("[...] 12(n01)")), []api.Step{fit(0), closed()}},
		{on(t, "count", texts("[...] 12+(n01)")), []api.Step{fit(0), closed()}},
		{on(t, "count", texts("8+(n01)")), []api.Step{fit(0), split(0, 8), point(), point()}},
		{on(t, "count", texts("7+(n01)")), []api.Step{fit(0), split(0, 8), split(0, 7), point(), point(), point()}},
		{on(t, "count", texts("4+(n14)")), []api.Step{fit(0), split(0, 45), fit(0), point(), fit(0), point()}},
		{on(t, "vast", texts("[...]", "[...]", "1(a)"), rule(2, 0, 1)), []api.Step{sum(0, 2), closed()}},
	} {
		proof, e := broken.Prove(k, x.p)
		expect(t, fmt.Sprint("Prove of ", x.p), proof, e, x.want, api.OK)
	}
	r := []api.Step{sum(0, 0), sum(0, 1), fit(1), sum(0, 0), split(0, 3)}
	proof, e := broken.Prove(k, sampleQ(t, "8(n01)"))
	expect(t, "Prove(r): the first steps", proof[:min(len(proof), len(r))], e, r, api.OK)
}

// P6.6, P6.11: Prove finds for random puzzles the proof that the chapter describes, which is accepted and leaves all completions.
func TestProveOfRandom(t *testing.T) {
	k, random := book(t), newRandom()
	tried := 0
	for range 1000 {
		p, _ := randomPuzzle(t, random, k)
		all, ok := completions(t, k, p)
		if !ok || len(all) > 150 {
			continue
		}
		tried++
		d := newDefinition(t, k, p, api.MaxNum)
		proof, e := broken.Prove(k, p)
		expect(t, fmt.Sprint("Prove of ", p), proof, e, d.found(d.start()), api.OK)
		left, e := broken.Verify(k, p, proof)
		expect(t, fmt.Sprint("Verify of ", p, proof), left, e, all, api.OK)
	}
	if tried < 500 {
		t.Errorf("%d puzzles were tried", tried)
	}
}

// P6.6, P6.11: the same with the standard ladders: parts of a whole total, and a sum of some of them.
func TestProveOfStandard(t *testing.T) {
	k, random := book(t), newRandom()
	tried := 0
	for range 1500 {
		l := pick(random, metro.Standard()...)
		v := []int{1 + random.IntN(30), 1 + random.IntN(900), 1 + random.IntN(900), 0, 0}
		v[3], v[4] = v[0]+v[1]+v[2], v[0]+v[2]
		p := api.Puzzle{Rules: []api.Rule{rule(3, 0, 1, 2), rule(4, 0, 2)}}
		for i, n := range v {
			written, e := numeral.Write(l, n)
			expectError(t, "Write", e, api.OK)
			if i != 3 {
				written = damaged(random, written)
			}
			p.Cells = append(p.Cells, api.Cell{Case: i, Good: "a", Ladder: l.Name, Trace: written})
		}
		if n, e := broken.Count(k, p); e != api.OK || n > 200 {
			continue
		}
		all, e := broken.All(k, p, 200)
		expectError(t, "All", e, api.OK)
		proof, e := broken.Prove(k, p)
		if e != api.OK || len(proof) > 2000 {
			continue
		}
		tried++
		d := newDefinition(t, k, p, api.MaxFound)
		expect(t, fmt.Sprint("Prove of ", p), proof, e, d.found(d.start()), api.OK)
		left, e := broken.Verify(k, p, proof)
		expect(t, fmt.Sprint("Verify of ", p, proof), left, e, all, api.OK)
	}
	if tried < 500 {
		t.Errorf("%d puzzles were tried", tried)
	}
}

// P6.6: numbers up to MaxNum, although greater ones could be written; and sums that are greater.
func TestProveToMaxNum(t *testing.T) {
	k := book(t)
	vast := ladderOf(t, k, "vast")
	greatest, e := numeral.Write(vast, api.MaxNum)
	expectError(t, "Write", e, api.OK)
	trace := api.Numeral{Plus: slices.Clone(greatest.Plus)}
	last := &trace.Plus[len(trace.Plus)-1]
	last.Count, last.More = 1, true
	cell := func(n int, trace api.Numeral) api.Cell {
		return api.Cell{Case: n, Good: "a", Ladder: "vast", Trace: trace}
	}
	one := api.Puzzle{Cells: []api.Cell{cell(0, trace)}}
	d := newDefinition(t, k, one, api.MaxNum)
	proof, e := broken.Prove(k, one)
	if expect(t, "Prove", proof, e, d.found(d.start()), api.OK); len(proof) < 5 {
		t.Errorf("Prove: %v", proof)
	}
	gap := api.Numeral{Plus: []api.Group{{}}}
	p := api.Puzzle{Cells: []api.Cell{cell(0, greatest), cell(1, greatest), cell(2, gap)}, Rules: []api.Rule{rule(2, 0, 1)}}
	proof, e = broken.Prove(k, p)
	expect(t, "Prove of a sum above MaxNum", proof, e, []api.Step{sum(0, 2), closed()}, api.OK)
	n, e := broken.Count(k, p)
	expect(t, "Count of a sum above MaxNum", n, e, 0, api.OK)
	p.Cells[1].Trace = amount(t, "1(a)")
	n, e = broken.Count(k, p)
	expect(t, "Count of MaxNum + 1", n, e, 0, api.OK)
	p.Rules = []api.Rule{rule(2, 0)}
	v, e := broken.Only(k, p)
	expect(t, "Only of MaxNum", v, e, []int{api.MaxNum, 1, api.MaxNum}, api.OK)
	parts := api.Puzzle{Rules: []api.Rule{rule(63, upTo(0, 62)...)}}
	for i := range 64 {
		parts.Cells = append(parts.Cells, cell(i, greatest))
	}
	parts.Cells[0].Trace = gap
	proof, e = broken.Prove(k, parts)
	expect(t, "Prove of a part far below 1", proof, e, []api.Step{sum(0, 63), closed()}, api.OK)
	left, e := broken.Verify(k, parts, []api.Step{sum(0, 0), closed()})
	expect(t, "Verify of a part far below 1", left, e, nil, api.OK)
}

// P6.6, P6.7: a proof of 20000 steps, and one of 20001.
func TestLimitOfProofs(t *testing.T) {
	k := book(t)
	// three steps StepFit, a point for each of 9999 numbers, and one step StepSplit less
	p := puzzle(t, texts("tens [...]", "lone 99+(a)", "lone 99+(a)"))
	proof, e := broken.Prove(k, p)
	expect(t, "Prove of 20000 steps", len(proof), e, api.MaxProof, api.OK)
	left, e := broken.Verify(k, p, proof)
	expect(t, "Verify of 20000 steps", len(left), e, 9999, api.OK)
	for i, v := range left {
		if !slices.Equal(v, []int{1 + i, 99, 99}) {
			t.Fatalf("Verify of 20000 steps: %v at %d", v, i)
		}
	}
	left, e = broken.Verify(k, p, append(proof, point()))
	expect(t, "Verify of 20001 steps", left, e, nil, api.ErrLimit)
	left, e = broken.Verify(k, p, make([]api.Step, 20000))
	expect(t, "Verify of 20000 wrong steps", left, e, nil, api.ErrProof)
	p = puzzle(t, texts("tens [...]", "lone 99+(a)", "lone 99+(a)", "lone 99+(a)"))
	proof, e = broken.Prove(k, p)
	expect(t, "Prove of 20001 steps", proof, e, nil, api.ErrLimit)
	for _, p := range []api.Puzzle{
		on(t, "count", texts("[...]")), on(t, "vast", slices.Repeat(texts("[...]"), 64)),
		// each round narrows the ranges only by a little, or not at all below the middle
		on(t, "vast", texts("[...]", "[...]", "20(g)", "20(g) 1(a)"), rule(2, 0, 1), rule(3, 0, 1)), on(t, "vast", texts("[...]", "[...]", "[...]", "[...]"), rule(2, 0, 1), rule(3, 0, 1)),
	} {
		proof, e := broken.Prove(k, p)
		expect(t, fmt.Sprint("Prove of ", p), proof, e, nil, api.ErrLimit)
	}
	// a proof may be short where the puzzle is too open
	p = on(t, "vast", texts("[...]", "[...]", "[...]", "1(a)"), rule(3, 0, 1, 2))
	proof, e = broken.Prove(k, p)
	expect(t, "Prove of a total that is too small", proof, e, []api.Step{sum(0, 3), closed()}, api.OK)
	p = on(t, "vast", texts("[...]", "[...]", "20(g)", "20(g)", "[...]"), rule(2, 0, 1), rule(3, 0))
	_, e = broken.Count(k, p)
	expectError(t, "Count", e, api.ErrLimit)
	proof, e = broken.Prove(k, p)
	expect(t, "Prove of a puzzle that is too open", proof, e, []api.Step{sum(0, 0), sum(0, 1), sum(1, 3), closed()}, api.OK)
}

// P6.7: steps that are not true are not accepted.
func TestVerify(t *testing.T) {
	k := book(t)
	r, s := sampleQ(t, "4(n01)"), sampleQ(t, "2(n01)")
	first := []api.Step{sum(0, 0), sum(0, 1), fit(1), sum(0, 0)} // then the ranges are 1 2, 2 3, 4 4
	whole := append(slices.Clone(first), split(0, 1), sum(0, 1), point(), sum(0, 1), point())
	with := func(x ...api.Step) []api.Step { return append(slices.Clone(first), x...) }
	left, e := broken.Verify(k, r, whole)
	expect(t, "Verify", left, e, [][]int{{1, 3, 4}, {2, 2, 4}}, api.OK)
	left, e = broken.Verify(k, r, with(fit(2), fit(1), sum(0, 2), fit(1), split(1, 2), fit(0), sum(0, 0), point(), sum(0, 0), point()))
	expect(t, "Verify with steps that change nothing, and the greater completion first", left, e, [][]int{{1, 3, 4}, {2, 2, 4}}, api.OK)
	left, e = broken.Verify(k, s, []api.Step{sum(0, 0), sum(0, 1), fit(1), closed()})
	expect(t, "Verify(s)", left, e, nil, api.OK)
	left, e = broken.Verify(k, api.Puzzle{}, []api.Step{point()})
	expect(t, "Verify of no cells", left, e, [][]int{{}}, api.OK)
	for _, x := range [][]api.Step{
		nil, {point()}, {closed()}, {sum(0, 0)}, whole[:8], whole[:7], whole[:5], append(slices.Clone(whole), point()), append(slices.Clone(whole), closed()), append(slices.Clone(whole), fit(0)),
		{sum(1, 0)}, {sum(-1, 0)}, {sum(0, 3)}, {sum(0, -1)}, {sum(mostInt, leastInt)}, {fit(3)}, {fit(-1)}, {fit(mostInt)}, {split(3, 1)}, {split(-1, 1)}, {{}}, {{Kind: 6}}, {{Kind: -1}}, {{Kind: mostInt}}, {{Kind: leastInt}},
		with(split(0, 0), point(), point()), with(split(0, 2), sum(0, 1), point(), point()), with(split(2, 4), point(), point()), with(split(2, 3), point(), point()), with(split(0, leastInt)), with(split(0, mostInt)),
		with(closed()), with(split(0, 1), point(), sum(0, 1), point()), with(split(0, 1), sum(0, 1), closed(), sum(0, 1), point()), with(split(0, 1), sum(0, 1), split(1, 3), point(), point(), point()),
	} {
		left, e := broken.Verify(k, r, x)
		expect(t, fmt.Sprint("Verify of ", x), left, e, nil, api.ErrProof)
	}
	// all fields that a step does not use are 0
	for i := range whole {
		for _, change := range []func(x *api.Step){func(x *api.Step) { x.Rule++ }, func(x *api.Step) { x.Rule-- }, func(x *api.Step) { x.Cell += 3 }, func(x *api.Step) { x.Cell-- }, func(x *api.Step) { x.At += 1 }, func(x *api.Step) { x.At -= 1 }} {
			x := slices.Clone(whole)
			if change(&x[i]); x[i].Kind == api.StepSum && x[i].Cell == 0 && whole[i].Cell == 1 {
				continue // another step that is true
			}
			left, e := broken.Verify(k, r, x)
			expect(t, fmt.Sprint("Verify of ", x), left, e, nil, api.ErrProof)
		}
	}
	// no step but StepClosed where a range is empty
	for _, x := range []api.Step{sum(0, 0), fit(0), fit(1), split(0, 1), point()} {
		left, e := broken.Verify(k, s, []api.Step{sum(0, 0), sum(0, 1), fit(1), x, closed()})
		expect(t, fmt.Sprint("Verify of ", x, " in a closed branch"), left, e, nil, api.ErrProof)
	}
	// a split must leave numbers in both parts, and none follows an empty range
	end := whole[5:] // the branches of the completions, after a split of the cell 0 at 1
	for _, x := range [][]api.Step{
		append(with(split(0, 0), closed(), split(0, 1)), end...), append(append(with(split(0, 2), split(0, 1)), end...), closed()), append(with(split(2, 3), closed(), split(0, 1)), end...), append(append(with(split(2, 4), split(0, 1)), end...), closed()),
	} {
		left, e := broken.Verify(k, r, x)
		expect(t, fmt.Sprint("Verify of ", x), left, e, nil, api.ErrProof)
	}
	two := on(t, "count", texts("8+(n01)", "[...] 12(n01)"))
	left, e = broken.Verify(k, two, []api.Step{fit(1), closed()})
	expect(t, "Verify of a closed branch", left, e, nil, api.OK)
	left, e = broken.Verify(k, two, []api.Step{fit(1), split(0, 8), closed(), closed()})
	expect(t, "Verify of a split in a closed branch", left, e, nil, api.ErrProof)
	// a point that is no completion: a number does not fit, or a rule does not hold
	lone := on(t, "count", texts("4+(n14)"))
	left, e = broken.Verify(k, lone, []api.Step{fit(0), split(0, 40), point(), split(0, 49), fit(0), closed(), point()})
	expect(t, "Verify without points that do not fit", left, e, [][]int{{40}, {50}}, api.OK)
	left, e = broken.Verify(k, lone, []api.Step{fit(0), split(0, 40), point(), split(0, 48), fit(0), closed(), split(0, 49), point(), point()})
	expect(t, "Verify of a point that does not fit", left, e, nil, api.ErrProof)
	left, e = broken.Verify(k, on(t, "count", texts("1(n01)", "2(n01)"), rule(0, 1)), []api.Step{point()})
	expect(t, "Verify of a point whose rule does not hold", left, e, nil, api.ErrProof)
}

// P6.7, P6.11: whatever is changed in a proof, it is accepted if and only if all that it says is true, and then leaves all completions.
func TestVerifyOfRandom(t *testing.T) {
	k, random := book(t), newRandom()
	seen := map[bool]int{}
	for range 1500 {
		p, _ := randomPuzzle(t, random, k)
		all, ok := completions(t, k, p)
		proof, e := broken.Prove(k, p)
		if !ok || len(all) > 20 || len(proof) > 100 {
			continue
		}
		expectError(t, "Prove", e, api.OK)
		d := newDefinition(t, k, p, api.MaxNum)
		for range 10 {
			x := slices.Clone(proof)
			i, j := random.IntN(len(x)), random.IntN(len(x))
			switch random.IntN(7) {
			case 0:
				x = slices.Delete(x, i, i+1)
			case 1:
				x = slices.Insert(x, i, x[j])
			case 2:
				x = slices.Insert(x, i, fit(random.IntN(len(p.Cells))))
			case 3:
				x = slices.Insert(x, i, sum(random.IntN(len(p.Rules)+1), random.IntN(len(p.Cells))))
			case 4:
				x[i], x[j] = x[j], x[i]
			case 5:
				x[i].At += pick(random, -1, 1)
			default:
				x[i].Cell, x[i].Kind = random.IntN(len(p.Cells)), pick(random, x[i].Kind, 1+random.IntN(5))
			}
			left, accepted := d.verified(x)
			if seen[accepted]++; accepted && show(left) != show(all) {
				t.Errorf("the proof %v of %v leaves %v of %v", x, p, left, all)
			}
			want := api.ErrProof
			if accepted {
				want = api.OK
			}
			got, e := broken.Verify(k, p, x)
			expect(t, fmt.Sprint("Verify of ", p, x), got, e, left, want)
		}
	}
	if seen[true] < 1000 || seen[false] < 1000 {
		t.Errorf("proofs that were accepted, and others: %v", seen)
	}
}

// P6.11: other proofs than the one that is found are accepted, and leave all completions.
func TestOtherProofs(t *testing.T) {
	k, random := book(t), newRandom()
	tried := 0
	for range 600 {
		p, _ := randomPuzzle(t, random, k)
		all, ok := completions(t, k, p)
		if !ok || len(all) > 20 {
			continue
		}
		tried++
		d := newDefinition(t, k, p, api.MaxNum)
		proof := d.narrowed(random, d.start())
		if len(proof) > api.MaxProof {
			continue
		}
		left, e := broken.Verify(k, p, proof)
		expect(t, fmt.Sprint("Verify of ", p, proof), left, e, all, api.OK)
	}
	if tried < 200 {
		t.Errorf("%d puzzles were tried", tried)
	}
}
