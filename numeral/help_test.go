package numeral_test

import (
	"math/rand/v2"
	"slices"
	"testing"

	"bulla/api"
	"bulla/metro"
	"bulla/numeral"
)

const (
	mostInt  = 1<<63 - 1
	leastInt = -1 << 63
	longest  = "abcdefghijklmnop" // the longest name
)

func g(count int, sign string) api.Group { return api.Group{Count: count, Sign: sign} }

func more(count int, sign string) api.Group { return api.Group{Count: count, Sign: sign, More: true} }

func gap() api.Group { return api.Group{} }

func plus(groups ...api.Group) api.Numeral { return api.Numeral{Plus: groups} }

func lessened(n api.Numeral, less ...api.Group) api.Numeral {
	return api.Numeral{Plus: n.Plus, Less: less}
}

// signs returns n groups of different signs.
func signs(n int) []api.Group {
	var groups []api.Group
	for i := range n {
		groups = append(groups, g(1+i, "s"+string(rune('a'+i))))
	}
	return groups
}

// equal compares numerals by their fields, without the help of the package.
func equal(a, b api.Numeral) bool {
	return slices.Equal(a.Plus, b.Plus) && slices.Equal(a.Less, b.Less)
}

func parsed(t *testing.T, s string) api.Numeral {
	t.Helper()
	n, at, e := numeral.Parse(s)
	if at != 0 || e != api.OK {
		t.Fatalf("Parse(%q): at %d, error %d", s, at, e)
	}
	return n
}

// expect compares the result of a call with the value wanted, which with an error is the zero value (R2).
func expect[T comparable](t *testing.T, call string, got T, gotError api.Errno, want T, wantError api.Errno) {
	t.Helper()
	if got != want || gotError != wantError {
		t.Errorf("%s: %v, error %d; want %v, error %d", call, got, gotError, want, wantError)
	}
}

// expectList does so for a list (R3: nil and empty are the same).
func expectList[T comparable](t *testing.T, call string, got []T, gotError api.Errno, want []T, wantError api.Errno) {
	t.Helper()
	if !slices.Equal(got, want) || gotError != wantError {
		t.Errorf("%s: %v, error %d; want %v, error %d", call, got, gotError, want, wantError)
	}
}

// expectNumeral does so for a numeral with a text, which is empty if an error is wanted.
func expectNumeral(t *testing.T, call string, got api.Numeral, gotError api.Errno, want string, wantError api.Errno) {
	t.Helper()
	wanted := api.Numeral{}
	if want != "" {
		wanted = parsed(t, want)
	}
	if !equal(got, wanted) || gotError != wantError {
		t.Errorf("%s: %v, error %d; want %q, error %d", call, got, gotError, want, wantError)
	}
}

// ladder returns a ladder of the units a, b .. with these factors.
func ladder(name string, factors ...int) api.Ladder {
	l := api.Ladder{Name: name}
	for i, f := range factors {
		l.Units = append(l.Units, api.Unit{Sign: string(rune('a' + i)), Factor: f})
	}
	return l
}

func standard(t *testing.T, name string) api.Ladder {
	t.Helper()
	for _, l := range metro.Standard() {
		if l.Name == name {
			return l
		}
	}
	t.Fatalf("no standard ladder %s", name)
	return api.Ladder{}
}

// deep is a ladder whose last sign has the value 2^40.
func deep() api.Ladder { return ladder("deep", 1, 32, 32, 32, 32, 32, 32, 32, 32) }

// steep is a ladder whose last sign has a value of which 2^40 is no multiple.
func steep() api.Ladder { return ladder("steep", 1, 60, 60, 60, 60, 60, 60) }

// twelve is a ladder of as many units as are allowed.
func twelve() api.Ladder { return ladder("twelve", 1, 2, 3, 4, 5, 6, 7, 8, 9, 10, 2, 2) }

func someLadders() []api.Ladder {
	return append(metro.Standard(), deep(), steep(), twelve(), ladder("one", 1), ladder("two", 1, 2), ladder("binary", 1, 2, 2, 2, 2), ladder("mixed", 1, 3, 2, 60))
}

func invalidLadders() []api.Ladder {
	return []api.Ladder{{}, {Name: "a"}, ladder("A", 1), ladder("a", 2), ladder("a", 1, 1), ladder("a", 1, 61), ladder("a", 1, 60, 60, 60, 60, 60, 60, 60)}
}

// countsOf returns the canonical counts of a number, calculated without the help of the package.
func countsOf(l api.Ladder, n int) []int {
	var counts []int
	for i := range l.Units {
		if i+1 == len(l.Units) {
			return append(counts, n)
		}
		counts = append(counts, n%l.Units[i+1].Factor)
		n /= l.Units[i+1].Factor
	}
	return counts
}

// canonicalOf returns the groups of the canonical numeral of a number, or false if there is none.
func canonicalOf(l api.Ladder, n int) ([]api.Group, bool) {
	var groups []api.Group
	for i, count := range countsOf(l, n) {
		if count > 99 {
			return nil, false
		}
		if count > 0 {
			groups = append([]api.Group{g(count, l.Units[i].Sign)}, groups...)
		}
	}
	return groups, true
}

func valueOf(l api.Ladder, sign string) int {
	value := 1
	for _, u := range l.Units {
		value *= u.Factor
		if u.Sign == sign {
			return value
		}
	}
	return 0
}

// totalOf returns the sum of groups whose signs are on the ladder.
func totalOf(l api.Ladder, groups []api.Group) int {
	total := 0
	for _, x := range groups {
		total += x.Count * valueOf(l, x.Sign)
	}
	return total
}

func marksOf(n api.Numeral) int {
	marks := 0
	for _, x := range slices.Concat(n.Plus, n.Less) {
		marks += x.Count
	}
	if len(n.Less) > 0 {
		marks++
	}
	return marks
}

func newRandom() *rand.Rand { return rand.New(rand.NewPCG(2, 13)) }

// someGroups returns groups of some of the units, the greatest one first.
func someGroups(random *rand.Rand, units []api.Unit) []api.Group {
	var groups []api.Group
	for _, u := range slices.Backward(units) {
		if random.IntN(2) == 0 {
			groups = append(groups, g(1+random.IntN(1+random.IntN(99)), u.Sign))
		}
	}
	return groups
}

// someNumeral returns a numeral that can be read on the ladder, and its value.
func someNumeral(random *rand.Rand, l api.Ladder) (api.Numeral, int) {
	for {
		n := plus(someGroups(random, l.Units)...)
		if len(n.Plus) == 0 || totalOf(l, n.Plus) > api.MaxNum {
			continue
		}
		last := valueOf(l, n.Plus[len(n.Plus)-1].Sign)
		less := someGroups(random, l.Units)
		for len(less) > 0 && totalOf(l, less) >= last {
			less = less[1:]
		}
		return lessened(n, less...), totalOf(l, n.Plus) - totalOf(l, less)
	}
}

// someNumber returns a number from 1 to MaxNum, small ones as often as great ones.
func someNumber(random *rand.Rand) int {
	return 1 + random.IntN(1<<random.IntN(41))
}
