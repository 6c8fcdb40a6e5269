package account_test

import (
	"fmt"
	"math/rand/v2"
	"slices"
	"strings"
	"testing"

	"bulla/account"
	"bulla/api"
	"bulla/metro"
	"bulla/numeral"
	"bulla/tablet"
)

const (
	mostInt  = 1<<63 - 1
	leastInt = -1 << 63
	longest  = "abcdefghijklmnop" // the longest name
)

// notNames are texts that are no names.
func notNames() []string {
	return []string{"", "A", "1a", "_a", "a-b", "a b", " a", longest + "q", "ä", "a\x00"}
}

// sample is the text of the chapter's example.
const sample = `tablet p1
face obverse
column 1
1 entry 2(n14) ; barley
2 entry 3(n01) ; ewes
3 entry 4(n01) ; rams
4 subtotal 7(n01) ; flock
5 entry 1(n14) ; barley
6 entry 2(n01) ; ewes
7 total 3(n14) ; barley
8 total 1(n14) ; flock
end
`

func good(name, ladder string, of ...string) api.Good {
	return api.Good{Name: name, Ladder: ladder, Of: of}
}

// sampleGoods are the goods of the chapter's example.
func sampleGoods() []api.Good {
	return []api.Good{good("barley", "grain"), good("ewes", "count"), good("rams", "count"), good("flock", "count", "ewes", "rams")}
}

func sampleValues() []int { return []int{60, 3, 4, 7, 30, 2, 90, 10} }

// ladder returns a ladder whose signs are a, b, c and so on.
func ladder(name string, factors ...int) api.Ladder {
	l := api.Ladder{Name: name}
	for i, factor := range factors {
		l.Units = append(l.Units, api.Unit{Sign: string(rune('a' + i)), Factor: factor})
	}
	return l
}

// small are ladders with few units, or with small factors.
func small() []api.Ladder {
	return []api.Ladder{
		ladder("lone", 1), ladder("twos", 1, 2, 2, 2), ladder("threes", 1, 3, 3), ladder("mixed", 1, 2, 5, 3), ladder("deep", 1, 2, 2, 3, 2, 2, 4, 2, 2, 2, 3, 2),
		ladder("high", 1, 60, 60, 60, 60, 60), ladder("wide", 1, 2, 60, 3, 59),
	}
}

// book returns a book of the standard ladders and of the small ones.
func book(t *testing.T) *metro.Book {
	t.Helper()
	k, e := metro.NewBook(append(metro.Standard(), small()...), nil)
	if e != api.OK {
		t.Fatalf("NewBook: error %d", e)
	}
	return k
}

func ladderOf(t *testing.T, k *metro.Book, name string) api.Ladder {
	t.Helper()
	l, e := k.Ladder(name)
	if e != api.OK {
		t.Fatalf("Ladder(%s): error %d", name, e)
	}
	return l
}

// noBooks are the books with which everything is ErrNil.
func noBooks() []*metro.Book { return []*metro.Book{nil, {}} }

func parsed(t *testing.T, s string) api.Tablet {
	t.Helper()
	x, line, e := tablet.Parse(s)
	if e != api.OK {
		t.Fatalf("Parse(%s): line %d, error %d", s, line, e)
	}
	return x
}

// onTablet returns a tablet with a case for each line, which is given without its number.
func onTablet(t *testing.T, lines ...string) api.Tablet {
	t.Helper()
	var s strings.Builder
	s.WriteString("tablet p1\n")
	for i, line := range lines {
		if i%99 == 0 {
			fmt.Fprintf(&s, "face obverse\ncolumn %d\n", 1+i/99)
		}
		fmt.Fprintf(&s, "%d %s\n", 1+i%99, line)
	}
	return parsed(t, s.String()+"end\n")
}

func amount(t *testing.T, s string) api.Numeral {
	t.Helper()
	n, at, e := numeral.Parse(s)
	if e != api.OK {
		t.Fatalf("Parse(%s): at %d, error %d", s, at, e)
	}
	return n
}

func rule(total int, parts ...int) api.Rule { return api.Rule{Total: total, Parts: parts} }

// puzzle returns a puzzle of n cells of one ladder.
func puzzle(n int, ladder string, rules ...api.Rule) api.Puzzle {
	p := api.Puzzle{Rules: rules}
	for i := range n {
		p.Cells = append(p.Cells, api.Cell{Case: i, Good: "a", Ladder: ladder, Trace: api.Numeral{Plus: []api.Group{{Count: 1, Sign: "n01"}}}})
	}
	return p
}

func samplePuzzle(t *testing.T, k *metro.Book) api.Puzzle {
	t.Helper()
	p, e := account.Build(k, sampleGoods(), parsed(t, sample))
	if e != api.OK {
		t.Fatalf("Build: error %d", e)
	}
	return p
}

// lots returns lots of names and numbers.
func lots(l ...any) []api.Lot {
	var out []api.Lot
	for i := 0; i < len(l); i += 2 {
		out = append(out, api.Lot{Good: l[i].(string), N: l[i+1].(int)})
	}
	return out
}

// manyLots returns n lots, whose names begin with a letter.
func manyLots(letter string, n int) []api.Lot {
	var l []api.Lot
	for i := range n {
		l = append(l, api.Lot{Good: fmt.Sprintf("%s%03d", letter, i), N: 1 + i})
	}
	return l
}

func fix(cell, from, to, kind int) api.Fix {
	return api.Fix{Cell: cell, From: from, To: to, Kind: kind}
}

// show writes a value out (nil and empty lists look the same).
func show(x any) string { return fmt.Sprintf("%+v", x) }

// expect compares the result of a call with the value wanted, which with an error is the zero value (R2, R3).
func expect[T any](t *testing.T, call string, got T, gotError api.Errno, want T, wantError api.Errno) {
	t.Helper()
	if show(got) != show(want) || gotError != wantError {
		t.Errorf("%s: %.500s, error %d; want %.500s, error %d", call, show(got), gotError, show(want), wantError)
	}
}

func expectZero[T any](t *testing.T, call string, got T, gotError, wantError api.Errno) {
	t.Helper()
	var zero T
	expect(t, call, got, gotError, zero, wantError)
}

func expectError(t *testing.T, call string, got, want api.Errno) {
	t.Helper()
	if got != want {
		t.Errorf("%s: error %d; want %d", call, got, want)
	}
}

func newRandom() *rand.Rand { return rand.New(rand.NewPCG(5, 15)) }

func pick[T any](random *rand.Rand, l ...T) T { return l[random.IntN(len(l))] }

// slip returns the slip from m to n as the chapter defines it, from their canonical counts.
func slip(t *testing.T, l api.Ladder, m, n int) (api.Slip, bool) {
	t.Helper()
	d, e := metro.Split(l, m)
	c, f := metro.Split(l, n)
	if e != api.OK || f != api.OK || m < 1 || n < 1 {
		return api.Slip{}, false
	}
	var differ []int
	for i := range c {
		if c[i] != d[i] {
			differ = append(differ, i)
		}
	}
	switch {
	case len(differ) == 1 && c[differ[0]] == d[differ[0]]+1:
		return api.Slip{Kind: api.SlipMore, Sign: l.Units[differ[0]].Sign, N: m}, true
	case len(differ) == 1 && c[differ[0]] == d[differ[0]]-1:
		return api.Slip{Kind: api.SlipLess, Sign: l.Units[differ[0]].Sign, N: m}, true
	case len(differ) == 2 && differ[1] == differ[0]+1:
		u, v := differ[0], differ[1]
		if d[v] == 0 && d[u] > 0 && c[u] == 0 && c[v] == d[u] {
			return api.Slip{Kind: api.SlipUp, Sign: l.Units[u].Sign, N: m}, true
		}
		if d[u] == 0 && d[v] > 0 && c[v] == 0 && c[u] == d[v] {
			return api.Slip{Kind: api.SlipDown, Sign: l.Units[v].Sign, N: m}, true
		}
	}
	return api.Slip{}, false
}

// added returns the sum of some values.
func added(v []int, cells []int) int {
	sum := 0
	for _, i := range cells {
		sum += v[i]
	}
	return sum
}

// addsUp reports whether all rules hold.
func addsUp(p api.Puzzle, v []int) bool {
	wrong := func(r api.Rule) bool { return v[r.Total] != added(v, r.Parts) }
	return !slices.ContainsFunc(p.Rules, wrong)
}
