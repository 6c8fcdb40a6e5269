package broken_test

import (
	"fmt"
	"math/rand/v2"
	"slices"
	"strings"
	"testing"

	"bulla/api"
	"bulla/broken"
	"bulla/metro"
	"bulla/numeral"
)

const (
	mostInt  = 1<<63 - 1
	leastInt = -1 << 63
)

// ladder returns a ladder whose signs are a, b, c and so on.
func ladder(name string, factors ...int) api.Ladder {
	l := api.Ladder{Name: name}
	for i, factor := range factors {
		l.Units = append(l.Units, api.Unit{Sign: string(rune('a' + i)), Factor: factor})
	}
	return l
}

// small are ladders on which at most 4096 numbers have canonical numerals.
func small() []api.Ladder {
	return []api.Ladder{ladder("lone", 1), ladder("twos", 1, 2, 2, 2), ladder("threes", 1, 3, 3), ladder("mixed", 1, 2, 5, 3)}
}

// book returns a book of the standard ladders, the small ones, one with the numbers from 1 to 9999, and one on which MaxNum has a canonical numeral.
func book(t *testing.T) *metro.Book {
	t.Helper()
	l := append(metro.Standard(), small()...)
	k, e := metro.NewBook(append(l, ladder("tens", 1, 10, 10), ladder("vast", 1, 60, 60, 60, 60, 60, 60)), nil)
	if e != api.OK {
		t.Fatalf("NewBook: error %d", e)
	}
	return k
}

func ladderOf(t *testing.T, k *metro.Book, name string) api.Ladder {
	t.Helper()
	l, e := k.Ladder(name)
	if e != api.OK {
		t.Fatalf("Ladder(%s): error %d", name, e)
	}
	return l
}

func amount(t *testing.T, s string) api.Numeral {
	t.Helper()
	n, at, e := numeral.Parse(s)
	if e != api.OK {
		t.Fatalf("Parse(%s): at %d, error %d", s, at, e)
	}
	return n
}

func rule(total int, parts ...int) api.Rule { return api.Rule{Total: total, Parts: parts} }

// puzzle returns a puzzle of cells, each given by its ladder, a blank, and its numeral.
func puzzle(t *testing.T, cells []string, rules ...api.Rule) api.Puzzle {
	t.Helper()
	p := api.Puzzle{Rules: rules}
	for i, s := range cells {
		l, text, _ := strings.Cut(s, " ")
		p.Cells = append(p.Cells, api.Cell{Case: 2 * i, Good: "a", Ladder: l, Trace: amount(t, text)})
	}
	return p
}

// on returns a puzzle whose cells are all of one ladder.
func on(t *testing.T, l string, cells []string, rules ...api.Rule) api.Puzzle {
	t.Helper()
	var texts []string
	for _, s := range cells {
		texts = append(texts, l+" "+s)
	}
	return puzzle(t, texts, rules...)
}

func texts(l ...string) []string { return l }

// upTo returns the numbers from n to most.
func upTo(n, most int) []int {
	var l []int
	for ; n <= most; n++ {
		l = append(l, n)
	}
	return l
}

// The puzzles of the chapter's examples.

func sampleP(t *testing.T) api.Puzzle {
	t.Helper()
	return puzzle(t, texts("grain 2(n14)", "count [...] 3(n01)", "count 4(n01)", "grain 2+(n14)", "count 1(n14) 7(n01)", "grain 4(n14)"), rule(4, 1, 2), rule(5, 0, 3))
}

// sampleQ is q with another numeral in the cell 2.
func sampleQ(t *testing.T, total string) api.Puzzle {
	t.Helper()
	return on(t, "count", texts("1+(n01)", "2+(n01)", total), rule(2, 0, 1))
}

func sum(rule, cell int) api.Step { return api.Step{Kind: api.StepSum, Rule: rule, Cell: cell} }

func fit(cell int) api.Step { return api.Step{Kind: api.StepFit, Cell: cell} }

func split(cell, at int) api.Step { return api.Step{Kind: api.StepSplit, Cell: cell, At: at} }

func point() api.Step { return api.Step{Kind: api.StepPoint} }

func closed() api.Step { return api.Step{Kind: api.StepClosed} }

// show writes a value out (nil and empty lists look the same).
func show(x any) string { return fmt.Sprintf("%+v", x) }

// expect compares the result of a call with the value wanted, which with an error is the zero value (R2, R3).
func expect[T any](t *testing.T, call string, got T, gotError api.Errno, want T, wantError api.Errno) {
	t.Helper()
	if show(got) != show(want) || gotError != wantError {
		t.Errorf("%s: %.500s, error %d; want %.500s, error %d", call, show(got), gotError, show(want), wantError)
	}
}

func expectError(t *testing.T, call string, got, want api.Errno) {
	t.Helper()
	if got != want {
		t.Errorf("%s: error %d; want %d", call, got, want)
	}
}

// calls are all functions of the package with a puzzle, and some other arguments. Each returns what is not zero of its result.
func calls(k *metro.Book, p api.Puzzle, v []int, cell, limit int, x []api.Step) map[string]func() (string, api.Errno) {
	return map[string]func() (string, api.Errno){
		"Check":   func() (string, api.Errno) { return "", broken.Check(k, p) },
		"Is":      func() (string, api.Errno) { return shown(broken.Is(k, p, v)) },
		"Free":    func() (string, api.Errno) { return shown(broken.Free(k, p)) },
		"Domain":  func() (string, api.Errno) { return shown(broken.Domain(k, p, cell)) },
		"Choices": func() (string, api.Errno) { return shown(broken.Choices(k, p)) },
		"Count":   func() (string, api.Errno) { return shown(broken.Count(k, p)) },
		"All":     func() (string, api.Errno) { return shown(broken.All(k, p, limit)) },
		"Only":    func() (string, api.Errno) { return shown(broken.Only(k, p)) },
		"Narrow":  func() (string, api.Errno) { return shown(broken.Narrow(k, p)) },
		"Sure":    func() (string, api.Errno) { return shown(broken.Sure(k, p)) },
		"Tally":   func() (string, api.Errno) { return shown(broken.Tally(k, p, cell)) },
		"Ask": func() (string, api.Errno) {
			c, n, e := broken.Ask(k, p)
			s, _ := shown([]int{c, n}, e)
			return strings.TrimPrefix(s, "[0 0]"), e
		},
		"Prove":  func() (string, api.Errno) { return shown(broken.Prove(k, p)) },
		"Verify": func() (string, api.Errno) { return shown(broken.Verify(k, p, x)) },
	}
}

// shown writes a result out, if it is not its zero value.
func shown[T any](x T, e api.Errno) (string, api.Errno) {
	var zero T
	if show(x) == show(zero) {
		return "", e
	}
	return show(x), e
}

func newRandom() *rand.Rand { return rand.New(rand.NewPCG(6, 17)) }

func pick[T any](random *rand.Rand, l ...T) T { return l[random.IntN(len(l))] }

// randomPuzzle returns an account of a few cells on one or two ladders, in which some amounts are damaged; and its values before that. Sometimes it does not add up.
func randomPuzzle(t *testing.T, random *rand.Rand, k *metro.Book) (api.Puzzle, []int) {
	t.Helper()
	var p api.Puzzle
	n := 1 + random.IntN(6)
	names, values := texts("lone", "twos", "threes", "mixed"), make([]int, n)
	names = texts(pick(random, names...), pick(random, names...))
	isSum, most := make([]bool, n), pick(random, 3, 9, 25)
	for i := range n {
		p.Cells = append(p.Cells, api.Cell{Case: i, Good: "a", Ladder: pick(random, names[0], names[0], names[0], names[1])})
		isSum[i], values[i] = random.IntN(3) == 0, 1+random.IntN(most)
	}
	for i, c := range p.Cells {
		if !isSum[i] {
			continue
		}
		r := rule(i)
		for j, d := range p.Cells {
			if !isSum[j] && d.Ladder == c.Ladder && random.IntN(4) > 0 {
				r.Parts = append(r.Parts, j)
			}
		}
		values[i] = max(1, added(values, r.Parts)+pick(random, 0, 0, 0, 0, 0, 0, 0, 0, 1, -1))
		p.Rules = append(p.Rules, r)
	}
	random.Shuffle(len(p.Rules), func(i, j int) { p.Rules[i], p.Rules[j] = p.Rules[j], p.Rules[i] })
	for i := range p.Cells {
		c := &p.Cells[i]
		written, e := numeral.Write(ladderOf(t, k, c.Ladder), values[i])
		if e != api.OK {
			t.Fatalf("Write(%s, %d): error %d", c.Ladder, values[i], e)
		}
		if c.Trace = written; random.IntN(4) > 0 {
			c.Trace = damaged(random, written)
		}
	}
	return p, values
}

// damaged returns what may still be visible of a numeral, which is canonical or damaged.
func damaged(random *rand.Rand, n api.Numeral) api.Numeral {
	var groups []api.Group
	add := func(g api.Group) {
		if g != (api.Group{}) || len(groups) == 0 || groups[len(groups)-1] != g {
			groups = append(groups, g)
		}
	}
	for _, g := range n.Plus {
		if random.IntN(8) == 0 {
			add(api.Group{})
		}
		switch x := random.IntN(5); {
		case g == api.Group{} || x == 0:
			add(api.Group{})
		case x == 1:
			add(api.Group{Count: 1 + random.IntN(g.Count), Sign: g.Sign, More: true})
		default:
			add(g)
		}
	}
	if random.IntN(8) == 0 {
		add(api.Group{})
	}
	return api.Numeral{Plus: groups}
}

// added returns the sum of some values.
func added(v []int, cells []int) int {
	sum := 0
	for _, i := range cells {
		sum += v[i]
	}
	return sum
}

// isSum reports whether a cell is the Total of a rule.
func isSum(p api.Puzzle, cell int) bool {
	return slices.ContainsFunc(p.Rules, func(r api.Rule) bool { return r.Total == cell })
}

// isCompletion reports whether v is a completion, as the chapter defines it.
func isCompletion(t *testing.T, k *metro.Book, p api.Puzzle, v []int) bool {
	t.Helper()
	for i, c := range p.Cells {
		if v[i] < 1 || v[i] > api.MaxNum || !fits(t, k, c, v[i]) {
			return false
		}
	}
	wrong := func(r api.Rule) bool { return v[r.Total] != added(v, r.Parts) }
	return !slices.ContainsFunc(p.Rules, wrong)
}

func fits(t *testing.T, k *metro.Book, c api.Cell, n int) bool {
	t.Helper()
	ok, e := numeral.Fits(ladderOf(t, k, c.Ladder), c.Trace, n)
	if e != api.OK {
		t.Fatalf("Fits(%v, %d): error %d", c, n, e)
	}
	return ok
}

// completions returns all completions, in their order: all numbers that fit are tried for the items, which leaves no choice for the sums. It returns false if these are too many.
func completions(t *testing.T, k *metro.Book, p api.Puzzle) (all [][]int, ok bool) {
	t.Helper()
	found, product := make([][]int, len(p.Cells)), 1
	for i, c := range p.Cells {
		var e api.Errno
		if found[i], e = numeral.Candidates(ladderOf(t, k, c.Ladder), c.Trace, api.MaxNum, api.MaxFound); e != api.OK {
			return nil, false
		}
		if !isSum(p, i) {
			if product *= len(found[i]); product > 2500 {
				return nil, false
			}
		}
	}
	v := make([]int, len(p.Cells))
	var try func(cell int)
	try = func(cell int) {
		switch {
		case cell == len(v):
			for _, r := range p.Rules {
				v[r.Total] = added(v, r.Parts)
			}
			if isCompletion(t, k, p, v) {
				all = append(all, slices.Clone(v))
			}
		case isSum(p, cell):
			try(cell + 1)
		default:
			for _, n := range found[cell] {
				v[cell] = n
				try(cell + 1)
			}
		}
	}
	try(0)
	slices.SortFunc(all, slices.Compare)
	return all, true
}
