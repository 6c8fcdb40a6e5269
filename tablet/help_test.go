package tablet_test

import (
	"fmt"
	"math/rand/v2"
	"slices"
	"strings"
	"testing"

	"bulla/api"
	"bulla/numeral"
	"bulla/tablet"
)

const (
	mostInt  = 1<<63 - 1
	leastInt = -1 << 63
	longest  = "abcdefghijklmnop" // the longest name
)

// sample is the text of the chapter's example.
const sample = `tablet p1
# rations of the month
face obverse
column 1
1 entry 3(n14) 2(n01) ; barley : lugal# - uru
2 entry [...] ; barley : ... [nin]
column 3
1 note : iti
face reverse
column 1
1 total 5(n14)
end
`

// printedSample is what is printed for it.
const printedSample = `tablet p1
face obverse
column 1
1 entry 3(n14) 2(n01) ; barley : lugal# - uru
2 entry [...] ; barley : ... [nin]
column 3
1 note : iti
face reverse
column 1
1 total 5(n14)
end
`

// words returns the words of tokens, without the help of the package.
func words(s string) []api.Word {
	var l []api.Word
	for _, x := range strings.Fields(s) {
		last := len(x) - 1
		switch {
		case x == "-":
			l = append(l, api.Word{State: api.WordLost})
		case x == "...":
			l = append(l, api.Word{State: api.WordGap})
		case x[0] == '[':
			l = append(l, api.Word{Text: x[1:last], State: api.WordRestored})
		case x[last] == '#':
			l = append(l, api.Word{Text: x[:last], State: api.WordDamaged})
		default:
			l = append(l, api.Word{Text: x, State: api.WordIntact})
		}
	}
	return l
}

func invalidWords() [][]api.Word {
	l := [][]api.Word{words("... ..."), words("a ... ... b"), words("... - ... ..."), slices.Repeat(words("a"), 17), slices.Repeat(words("... -"), 9)}
	for _, state := range []int{api.WordIntact, api.WordDamaged, api.WordRestored} {
		for _, text := range []string{"", "A", "1a", "_a", "a-b", "a b", longest + "q", "ä", "...", "-", "a#", "[a]", "a\x00"} {
			l = append(l, []api.Word{{Text: text, State: state}})
		}
	}
	for _, state := range []int{api.WordLost, api.WordGap} {
		for _, text := range []string{"a", " ", "-", "..."} {
			l = append(l, []api.Word{{Text: text, State: state}}, append(words("a -"), api.Word{Text: text, State: state}))
		}
	}
	for _, state := range []int{0, 6, -1, mostInt, leastInt} {
		l = append(l, []api.Word{{State: state}}, []api.Word{{Text: "a", State: state}})
	}
	return l
}

// amount returns the numeral of a text, or none for the empty text.
func amount(s string) api.Numeral {
	n, _, _ := numeral.Parse(s)
	return n
}

func note(face, column, line int, w string) api.Case {
	return api.Case{Face: face, Column: column, Line: line, Kind: api.KindNote, Words: words(w)}
}

func entry(face, column, line int, n, good, w string) api.Case {
	return api.Case{Face: face, Column: column, Line: line, Kind: api.KindEntry, Amount: amount(n), Good: good, Words: words(w)}
}

// kind returns a case with another kind.
func kind(k int, c api.Case) api.Case {
	c.Kind = k
	return c
}

func named(name string, cases ...api.Case) api.Tablet { return api.Tablet{Name: name, Cases: cases} }

// sampleTablet is the tablet of the chapter's example.
func sampleTablet() api.Tablet {
	return named("p1",
		entry(1, 1, 1, "3(n14) 2(n01)", "barley", "lugal# - uru"),
		entry(1, 1, 2, "[...]", "barley", "... [nin]"),
		note(1, 3, 1, "iti"),
		kind(api.KindTotal, entry(2, 1, 1, "5(n14)", "", "")))
}

// notes returns a tablet of n notes.
func notes(n int) api.Tablet {
	t := named("notes")
	for i := range n {
		t.Cases = append(t.Cases, note(1+i/99/12, 1+i/99%12, 1+i%99, ""))
	}
	return t
}

// invalid is a tablet with an error.
type invalid struct {
	t api.Tablet
	e api.Errno
}

// someInvalid returns a tablet for each error of Check, whose other parts are valid.
func someInvalid() []invalid {
	return []invalid{
		{named("P"), api.ErrHead}, {api.Tablet{}, api.ErrHead}, {notes(257), api.ErrLimit}, {named("a", note(7, 1, 1, "")), api.ErrCase},
		{named("a", note(1, 1, 1, ""), note(1, 1, 2, "... ...")), api.ErrWords}, {named("a", note(1, 1, 1, ""), note(1, 1, 1, "")), api.ErrSequence},
	}
}

// show writes a value out (nil and empty lists look the same).
func show(x any) string { return fmt.Sprintf("%+v", x) }

// expect compares the result of a call with the value wanted, which with an error is the zero value (R2, R3).
func expect[T any](t *testing.T, call string, got T, gotError api.Errno, want T, wantError api.Errno) {
	t.Helper()
	if show(got) != show(want) || gotError != wantError {
		t.Errorf("%s: %s, error %d; want %s, error %d", call, show(got), gotError, show(want), wantError)
	}
}

func expectZero[T any](t *testing.T, call string, got T, gotError, wantError api.Errno) {
	t.Helper()
	var zero T
	expect(t, call, got, gotError, zero, wantError)
}

func parsed(t *testing.T, s string) api.Tablet {
	t.Helper()
	x, line, e := tablet.Parse(s)
	if line != 0 || e != api.OK {
		t.Fatalf("Parse(%.200q): line %d, error %d", s, line, e)
	}
	return x
}

func printed(t *testing.T, x api.Tablet) string {
	t.Helper()
	s, e := tablet.Print(x)
	if e != api.OK {
		t.Fatalf("Print(%.200s): error %d", show(x), e)
	}
	return s
}

func newRandom() *rand.Rand { return rand.New(rand.NewPCG(4, 13)) }

func pick[T any](random *rand.Rand, l ...T) T { return l[random.IntN(len(l))] }

// someWords returns valid words.
func someWords(random *rand.Rand, most int) []api.Word {
	var tokens []string
	for range random.IntN(most + 1) {
		token := pick(random, "a", "b", "ab", "a#", "b#", "[a]", "[c]", "-", "...", "...", longest, longest+"#", "["+longest+"]")
		if token != "..." || len(tokens) == 0 || tokens[len(tokens)-1] != "..." {
			tokens = append(tokens, token)
		}
	}
	return words(strings.Join(tokens, " "))
}

// someTablet returns a valid tablet of at most that many cases, many of which are neighbours.
func someTablet(random *rand.Rand, most int) api.Tablet {
	t := named(pick(random, "p1", "a", longest))
	faces, columns, lines := 1+random.IntN(6), 1+random.IntN(12), 1+random.IntN(1+random.IntN(99))
	taken := map[[3]int]bool{}
	for range random.IntN(most + 1) {
		place := [3]int{1 + random.IntN(faces), 1 + random.IntN(columns), 1 + random.IntN(lines)}
		if taken[place] {
			continue
		}
		taken[place] = true
		c := note(place[0], place[1], place[2], "")
		if random.IntN(4) > 0 {
			n := pick(random, "3(n14) 2(n01)", "[...]", "99+(a)", "2(n14) la2 1(n01)", "[...] 1(b) [...] 10+("+longest+")")
			c = kind(1+random.IntN(3), entry(place[0], place[1], place[2], n, pick(random, "", "barley", "a", longest), ""))
		}
		c.Words = someWords(random, 16)
		t.Cases = append(t.Cases, c)
	}
	slices.SortFunc(t.Cases, func(a, b api.Case) int {
		return slices.Compare([]int{a.Face, a.Column, a.Line}, []int{b.Face, b.Column, b.Line})
	})
	return t
}
