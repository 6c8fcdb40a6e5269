package numeral_test

import (
	"fmt"
	"strings"
	"testing"

	"bulla/api"
	"bulla/numeral"
)

// P2.3
func TestParse(t *testing.T) {
	for _, x := range []struct {
		s string
		n api.Numeral
	}{
		{"3(n14) 2(n01)", plus(g(3, "n14"), g(2, "n01"))}, {"2(n14) la2 1(n01)", lessened(plus(g(2, "n14")), g(1, "n01"))}, {"3+(n14) [...] 2(n01)", plus(more(3, "n14"), gap(), g(2, "n01"))}, {"[...]", plus(gap())}, {"[...] 1+(a) [...]", plus(gap(), more(1, "a"), gap())},
		{"1(a)", plus(g(1, "a"))}, {"99(a)", plus(g(99, "a"))}, {"10+(a)", plus(more(10, "a"))}, {"1(" + longest + ")", plus(g(1, longest))}, {"1(a_9)", plus(g(1, "a_9"))}, {"1(la2) la2 1(la2)", lessened(plus(g(1, "la2")), g(1, "la2"))}, {"1(a) la2 1(a)", lessened(plus(g(1, "a")), g(1, "a"))},
		{"9(b) 10(a) la2 11(c) 12(b)", lessened(plus(g(9, "b"), g(10, "a")), g(11, "c"), g(12, "b"))},
	} {
		n, at, e := numeral.Parse(x.s)
		if !equal(n, x.n) || at != 0 || e != api.OK {
			t.Errorf("Parse(%q): %v, at %d, error %d", x.s, n, at, e)
		}
	}
}

type misspelt struct {
	s  string
	at int
	e  api.Errno
}

func expectParseError(t *testing.T, x misspelt) {
	t.Helper()
	n, at, e := numeral.Parse(x.s)
	if !equal(n, api.Numeral{}) || at != x.at || e != x.e {
		t.Errorf("Parse(%q): %v, at %d, error %d; want at %d, error %d", x.s, n, at, e, x.at, x.e)
	}
}

// P2.3: tokens that are none, wherever they stand.
func TestParseTokens(t *testing.T) {
	for _, token := range []string{
		"", "0(a)", "00(a)", "03(a)", "01+(a)", "100(a)", "010(a)", "999999999999999999999(a)", "(a)", "+(a)", "++(a)", "1++(a)", "+1(a)", "-1(a)", "+1+(a)", "1a(a)", "1_0(a)", "0x1(a)", "1.0(a)", "\u0661(a)", "1\u0661(a)",
		"1", "1+", "1(a", "1a)", "a", "1+a", "1()", "1(a))", "1((a)", "1(a)(b)", "1(a)+", "1(+a)", "1(a+)", "1[a]", "1(A)", "1(1a)", "1(_a)", "1(a-b)", "1(" + longest + "q)", "1(ä)", "1(a)x", "x1(a)", "1(a)\n", "\t1(a)", "1(a)\x00",
		"la", "la2x", "LA2", "la22", "la3", "[...", "...]", "[..]", "[....]", "...", "[...]x", "[...](a)", "1[...]", "[...]+", "[\u2026]", "\xff", ")", "(", "()",
	} {
		for _, before := range []string{"", "5(b) ", "5(b) la2 ", "[...] ", "5+(b) [...] "} {
			for _, after := range []string{"", " ", " 1(c)", " [...]", " la2 1(c)", " x"} {
				expectParseError(t, misspelt{before + token + after, len(before), api.ErrForm})
			}
		}
	}
}

// P2.3: tokens in wrong places.
func TestParseErrors(t *testing.T) {
	for _, x := range []misspelt{
		{"3(n14)  2(n01)", 7, api.ErrForm}, {"", 0, api.ErrForm}, {" ", 0, api.ErrForm}, {"03(n14)", 0, api.ErrForm}, {"1(a) ", 5, api.ErrForm}, {" 1(a)", 0, api.ErrForm}, {"1(a)\t2(b)", 0, api.ErrForm}, {"1(a) 2(b)  ", 10, api.ErrForm},
		{"la2", 0, api.ErrForm}, {"la2 1(n01)", 0, api.ErrForm}, {"la2 la2 1(a)", 0, api.ErrForm}, {"1(a) la2", 5, api.ErrForm}, {"1(a) la2 ", 9, api.ErrForm}, {"1(a) la2 la2", 9, api.ErrForm}, {"1(a) la2 la2 1(b)", 9, api.ErrForm}, {"1(a) la2 1(b) la2 1(c)", 14, api.ErrForm}, {"1(a) la2 1(b) la2", 14, api.ErrForm}, {"1+(a) la2", 6, api.ErrForm}, {"[...] la2", 6, api.ErrForm},
		{"3+(n14) la2 1(n01)", 8, api.ErrDamage}, {"[...] la2 1(n01)", 6, api.ErrDamage}, {"1+(a) 1(b) la2 1(c)", 11, api.ErrDamage}, {"1(a) [...] 1(b) la2 1(c)", 16, api.ErrDamage}, {"1+(a) la2 la2", 6, api.ErrDamage}, {"1+(a) la2 x", 6, api.ErrDamage},
		{"1(a) la2 [...]", 9, api.ErrDamage}, {"1(a) la2 1+(b)", 9, api.ErrDamage}, {"1(a) la2 1(b) [...]", 14, api.ErrDamage}, {"1(a) la2 1(b) 1+(b)", 14, api.ErrDamage}, {"1(a) la2 [...] [...]", 9, api.ErrDamage}, {"1(a) la2 1+(b) x", 9, api.ErrDamage},
		{"[...] [...]", 6, api.ErrForm}, {"1(a) [...] [...] 1(a)", 11, api.ErrForm}, {"[...] 1(a) [...] [...]", 17, api.ErrForm}, {"[...]  [...]", 6, api.ErrForm},
		{"1(n14) 2(n14)", 7, api.ErrUnordered}, {"1(a) 1(b) 1(a)", 10, api.ErrUnordered}, {"1(a) [...] 2+(a)", 11, api.ErrUnordered}, {"1+(a) 1(a)", 6, api.ErrUnordered}, {"1(a) la2 1(b) 1(b)", 14, api.ErrUnordered}, {"1(a) la2 1(a) 1(b) 1(a)", 19, api.ErrUnordered}, {"1(a) 1(a) x", 5, api.ErrUnordered}, {"1(a) 1(a) la2", 5, api.ErrUnordered},
	} {
		expectParseError(t, x)
	}
}

// tokens returns a text of n groups with different signs.
func tokens(n int) string {
	var l []string
	for i := range n {
		l = append(l, "1(s"+string(rune('a'+i))+")")
	}
	return strings.Join(l, " ")
}

// P2.3: the limits of the lists.
func TestParseLimits(t *testing.T) {
	full := tokens(24)
	n, at, e := numeral.Parse(full + " la2 " + full)
	if len(n.Plus) != 24 || len(n.Less) != 24 || at != 0 || e != api.OK {
		t.Errorf("Parse of 24 and 24 groups: %v, at %d, error %d", n, at, e)
	}
	gaps := strings.Repeat("[...] 1(?) ", 12)
	for i := range 12 {
		gaps = strings.Replace(gaps, "?", string(rune('a'+i)), 1)
	}
	gaps = strings.TrimSpace(gaps)
	if n := parsed(t, gaps); len(n.Plus) != 24 {
		t.Errorf("Parse(%q): %v", gaps, n)
	}
	for _, last := range []string{"1(x)", "1+(x)", "[...]", "1(sa)", "1+(sa)", "[...] [...]", "1(x) x", "1(x) la2 1(a)"} {
		expectParseError(t, misspelt{full + " " + last, len(full) + 1, api.ErrLimit})
		expectParseError(t, misspelt{"1(a) la2 " + full + " " + last, len(full) + 10, api.ErrLimit})
	}
	expectParseError(t, misspelt{gaps + " [...] la2 1(a)", len(gaps) + 1, api.ErrLimit})
	expectParseError(t, misspelt{tokens(23) + " [...] [...]", len(full) + 1, api.ErrLimit})
	expectParseError(t, misspelt{full + " x", len(full) + 1, api.ErrForm})
	expectParseError(t, misspelt{full + " la2", len(full) + 1, api.ErrForm})
	long := strings.Repeat("7", 1<<20)
	expectParseError(t, misspelt{"1(a) " + long + "(a) 1(b)", 5, api.ErrForm})
	expectParseError(t, misspelt{"1(a) " + strings.Repeat(" ", 1<<20), 5, api.ErrForm})
}

// P2.10
func TestParseText(t *testing.T) {
	random := newRandom()
	all := validNumerals()
	for _, l := range someLadders() {
		for range 100 {
			n, _ := someNumeral(random, l)
			all = append(all, n, someDamaged(random, l))
		}
	}
	for _, n := range all {
		s, e := numeral.Text(n)
		if e != api.OK {
			t.Fatalf("Text(%v): error %d", n, e)
		}
		again := parsed(t, s)
		if !equal(again, n) || !numeral.Same(again, n) {
			t.Errorf("Parse(%q): %v; want %v", s, again, n)
		}
	}
}

// P2.10: a text that is parsed is that of the numeral, which is valid.
func TestTextOfParsed(t *testing.T) {
	parts := []string{"1(a)", "2(a)", "2+(b)", "99(b)", "[...]", "la2", "", "03(a)", "1(b"}
	texts, count := []string{""}, 0
	for length := range 5 {
		var longer []string
		for _, s := range texts {
			for _, part := range parts {
				if length > 0 {
					part = s + " " + part
				}
				longer = append(longer, part)
				if expectTextOf(t, part) {
					count++
				}
			}
		}
		texts = longer
	}
	if count < 50 {
		t.Errorf("only %d texts were parsed", count)
	}
}

// P2.10: the same for texts that differ from one by a byte.
func TestTextOfMisspelt(t *testing.T) {
	for _, s := range []string{"12(n14) 3+(n01) [...]", "20(b) 1(a) la2 3(c) 4(b)"} {
		for i := range len(s) {
			for c := range 256 {
				changed := s[:i] + string([]byte{byte(c)}) + s[i+1:]
				expectTextOf(t, changed)
				expectTextOf(t, s[:i]+string([]byte{byte(c)})+s[i:])
			}
			expectTextOf(t, s[:i]+s[i+1:])
		}
	}
}

// expectTextOf reports whether s is parsed; then it must be the text of the numeral.
func expectTextOf(t *testing.T, s string) bool {
	t.Helper()
	n, at, e := numeral.Parse(s)
	if e != api.OK {
		if !equal(n, api.Numeral{}) {
			t.Errorf("Parse(%q): %v, error %d", s, n, e)
		}
		return false
	}
	if text, f := numeral.Text(n); text != s || f != api.OK || at != 0 || numeral.Check(n) != api.OK {
		t.Errorf("Parse(%q): %v, at %d, whose text is %q", s, n, at, text)
	}
	return true
}

// P2.3: offsets are those of tokens, also after many of them.
func TestParseOffsets(t *testing.T) {
	for n := 1; n <= 24; n++ {
		before := tokens(n)
		for _, x := range []misspelt{{" y", 1, api.ErrForm}, {" la2 y", 5, api.ErrForm}, {" 1(sa)", 1, api.ErrUnordered}, {" la2 1(a) 1(a)", 10, api.ErrUnordered}} {
			e := x.e
			if n == 24 && x.s == " 1(sa)" {
				e = api.ErrLimit
			}
			expectParseError(t, misspelt{before + x.s, len(before) + x.at, e})
		}
	}
	expectParseError(t, misspelt{fmt.Sprint("1(", longest, ") 22+(b) [...] 3(b)"), len(longest) + 4 + 7 + 6, api.ErrUnordered})
}
