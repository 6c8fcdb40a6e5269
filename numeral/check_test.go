package numeral_test

import (
	"fmt"
	"slices"
	"testing"

	"bulla/api"
	"bulla/numeral"
)

type check struct {
	n api.Numeral
	e api.Errno
}

func validNumerals() []api.Numeral {
	return []api.Numeral{
		plus(g(1, "a")), plus(g(99, "a")), plus(g(1, longest)), plus(g(3, "n14"), g(2, "n01")), plus(signs(24)...), plus(g(1, "b"), g(1, "a"), g(1, "c")),
		plus(gap()), plus(gap(), g(1, "a"), gap()), plus(more(1, "a")), plus(more(99, "a"), gap(), g(2, "b")), plus(g(2, "a"), more(1, "b"), gap()),
		lessened(plus(g(2, "a")), g(1, "b")), lessened(plus(g(2, "a")), g(99, "a")), lessened(plus(g(1, "a"), g(1, "b")), g(1, "b"), g(1, "a")), lessened(plus(signs(24)...), signs(24)...),
	}
}

func invalidNumerals() []check {
	gaps := make([]api.Group, 25)
	return []check{
		{plus(signs(25)...), api.ErrLimit}, {plus(gaps...), api.ErrLimit}, {lessened(plus(), gaps...), api.ErrLimit}, {lessened(plus(g(1, "a")), signs(25)...), api.ErrLimit}, {lessened(plus(gaps...), gaps...), api.ErrLimit}, {plus(make([]api.Group, 1000)...), api.ErrLimit},
		{plus(), api.ErrForm}, {lessened(plus(), g(1, "a")), api.ErrForm}, {lessened(plus(), gap()), api.ErrForm}, {api.Numeral{Plus: []api.Group{}, Less: []api.Group{}}, api.ErrForm},
		{plus(gap(), gap()), api.ErrForm}, {plus(g(1, "a"), gap(), gap()), api.ErrForm}, {plus(gaps[:24]...), api.ErrForm}, {plus(gap(), g(1, "a"), gap(), gap(), g(1, "a")), api.ErrForm}, {lessened(plus(gap(), gap()), gap()), api.ErrForm},
		{lessened(plus(g(1, "a")), gap()), api.ErrDamage}, {lessened(plus(g(1, "a")), g(1, "b"), gap(), gap()), api.ErrDamage}, {lessened(plus(g(1, "a")), gap(), g(1, "B")), api.ErrDamage},
		{plus(g(1, "")), api.ErrSign}, {plus(g(1, "A")), api.ErrSign}, {plus(g(1, "1a")), api.ErrSign}, {plus(g(1, longest+"q")), api.ErrSign}, {plus(g(0, "A")), api.ErrSign}, {plus(more(0, "")), api.ErrSign}, {plus(more(1, "")), api.ErrSign}, {plus(g(-1, "")), api.ErrSign}, {lessened(plus(g(1, "a")), more(0, "")), api.ErrSign}, {lessened(plus(g(1, "a")), more(100, "B")), api.ErrSign},
		{plus(g(0, "a")), api.ErrCount}, {plus(g(100, "a")), api.ErrCount}, {plus(g(-1, "a")), api.ErrCount}, {plus(g(mostInt, "a")), api.ErrCount}, {plus(g(leastInt, "a")), api.ErrCount}, {plus(more(0, "a")), api.ErrCount}, {plus(more(100, "a")), api.ErrCount}, {plus(g(1, "a"), g(0, "a")), api.ErrCount}, {lessened(plus(g(1, "a")), g(1, "b"), more(100, "b")), api.ErrCount},
		{plus(g(1, "a"), g(2, "a")), api.ErrUnordered}, {plus(g(1, "a"), gap(), g(1, "a")), api.ErrUnordered}, {plus(g(1, "a"), g(1, "b"), g(1, "a")), api.ErrUnordered}, {plus(more(1, "a"), g(1, "b"), g(1, "c"), more(2, "b")), api.ErrUnordered}, {lessened(plus(g(1, "a")), g(1, "b"), more(2, "b")), api.ErrUnordered}, {lessened(plus(gap()), g(1, "b"), g(2, "b")), api.ErrUnordered},
		{lessened(plus(g(1, "a")), more(1, "b")), api.ErrDamage}, {lessened(plus(g(1, "a")), more(1, "a")), api.ErrDamage}, {lessened(plus(g(1, "a")), g(1, "c"), more(1, "b"), g(1, "c")), api.ErrDamage},
		{lessened(plus(gap()), g(1, "a")), api.ErrDamage}, {lessened(plus(more(1, "b")), g(1, "a")), api.ErrDamage}, {lessened(plus(g(1, "c"), gap(), g(1, "b")), g(1, "a")), api.ErrDamage}, {lessened(plus(g(1, "c"), more(1, "b"), g(1, "a")), g(1, "a")), api.ErrDamage},
	}
}

// firstErrors are numerals with several errors, of which the first group's one decides.
func firstErrors() []check {
	return []check{
		{plus(g(0, "a"), g(1, "")), api.ErrCount}, {plus(g(1, ""), g(0, "a")), api.ErrSign}, {plus(gap(), gap(), g(1, "")), api.ErrForm}, {plus(g(1, "a"), g(1, "a"), gap(), gap()), api.ErrUnordered}, {plus(g(1, "a"), gap(), gap(), g(1, "a")), api.ErrForm},
		{lessened(plus(g(1, "a"), g(1, "a")), gap()), api.ErrUnordered}, {lessened(plus(g(0, "a")), g(1, "")), api.ErrCount}, {lessened(plus(gap()), g(0, "b")), api.ErrCount}, {lessened(plus(more(1, "a")), g(1, "")), api.ErrSign}, {lessened(plus(g(1, "a")), g(0, "b"), gap()), api.ErrCount}, {lessened(plus(g(1, "a")), gap(), g(0, "b")), api.ErrDamage},
	}
}

// P2.1
func TestCheck(t *testing.T) {
	for _, n := range validNumerals() {
		expect(t, fmt.Sprintf("Check(%v)", n), numeral.Check(n), api.OK, api.OK, api.OK)
	}
	for _, x := range slices.Concat(invalidNumerals(), firstErrors()) {
		expect(t, fmt.Sprintf("Check(%v)", x.n), numeral.Check(x.n), api.OK, x.e, api.OK)
	}
}

// P2.2, R3
func TestSame(t *testing.T) {
	all := append(validNumerals(), api.Numeral{}, lessened(plus(), g(1, "a")), plus(g(1, "a"), g(1, "a")), plus(gap(), gap()), plus(more(0, "a")), plus(g(0, "a")), plus(g(2, "a")), lessened(plus(g(2, "a")), g(2, "b")), lessened(plus(g(2, "a")), g(1, "c")), plus(g(2, "a"), g(1, "b")), plus(g(1, "b"), g(2, "a")))
	for i, a := range all {
		for j, b := range all {
			if same := numeral.Same(a, b); same != (i == j) {
				t.Errorf("Same(%v, %v): %v", a, b, same)
			}
		}
		copied := api.Numeral{Plus: append([]api.Group{}, a.Plus...), Less: append([]api.Group{}, a.Less...)}
		if !numeral.Same(a, copied) || !numeral.Same(copied, a) {
			t.Errorf("Same(%v) with its copy is false", a)
		}
	}
}

// P2.2
func TestText(t *testing.T) {
	for _, x := range []struct {
		n    api.Numeral
		text string
	}{
		{plus(g(3, "n14"), g(2, "n01")), "3(n14) 2(n01)"}, {lessened(plus(g(2, "n14")), g(1, "n01")), "2(n14) la2 1(n01)"}, {plus(more(3, "n14"), gap(), g(2, "n01")), "3+(n14) [...] 2(n01)"}, {plus(gap()), "[...]"}, {plus(g(99, longest)), "99(" + longest + ")"}, {plus(more(10, "a_0")), "10+(a_0)"},
		{lessened(plus(g(1, "b"), g(2, "a")), g(3, "c"), g(4, "a")), "1(b) 2(a) la2 3(c) 4(a)"}, {plus(gap(), g(1, "a"), gap()), "[...] 1(a) [...]"},
	} {
		s, e := numeral.Text(x.n)
		expect(t, fmt.Sprintf("Text(%v)", x.n), s, e, x.text, api.OK)
	}
	for _, x := range slices.Concat(invalidNumerals(), firstErrors()) {
		s, e := numeral.Text(x.n)
		expect(t, fmt.Sprintf("Text(%v)", x.n), s, e, "", x.e)
	}
}

// P2.2
func TestDamaged(t *testing.T) {
	for _, n := range validNumerals() {
		want := slices.ContainsFunc(n.Plus, func(x api.Group) bool { return x.More || x.Sign == "" })
		if damaged := numeral.Damaged(n); damaged != want {
			t.Errorf("Damaged(%v): %v", n, damaged)
		}
	}
	for _, x := range slices.Concat(invalidNumerals(), firstErrors()) {
		if numeral.Damaged(x.n) {
			t.Errorf("Damaged(%v), which is not valid", x.n)
		}
	}
}

// P2.2
func TestMarks(t *testing.T) {
	for _, x := range []struct {
		n     api.Numeral
		marks int
	}{
		{plus(g(3, "n14"), g(2, "n01")), 5}, {lessened(plus(g(2, "n14")), g(1, "n01")), 4}, {lessened(plus(g(2, "b"), g(5, "c")), g(1, "b"), g(10, "a")), 19}, {plus(more(3, "n14")), 3}, {plus(gap()), 0}, {plus(gap(), g(4, "a"), gap(), more(99, "b")), 103}, {plus(g(1, "a")), 1},
	} {
		expect(t, fmt.Sprintf("Marks(%v)", x.n), numeral.Marks(x.n), api.OK, x.marks, api.OK)
	}
	for _, x := range slices.Concat(invalidNumerals(), firstErrors()) {
		expect(t, fmt.Sprintf("Marks(%v)", x.n), numeral.Marks(x.n), api.OK, 0, api.OK)
	}
}
