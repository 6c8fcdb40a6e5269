package tablet_test

import (
	"slices"
	"strings"
	"testing"

	"bulla/api"
	"bulla/tablet"
)

// fitsByHand tries all distributions of the names.
func fitsByHand(w []api.Word, l []string) bool {
	_, ok := restoreByHand(w, l)
	return ok
}

// restoreByHand returns the words of the first distribution: that in which the first gap receives the fewest names, and so on.
func restoreByHand(w []api.Word, l []string) ([]api.Word, bool) {
	if len(w) == 0 {
		return nil, len(l) == 0
	}
	x, least, most := w[0], 1, 1
	if x.State == api.WordGap {
		least, most = 0, len(l)
	}
	for n := least; n <= most && n <= len(l); n++ {
		var restored []api.Word
		for _, name := range l[:n] {
			restored = append(restored, api.Word{Text: name, State: api.WordRestored})
		}
		if x.State == api.WordIntact || x.State == api.WordDamaged {
			if x.Text != l[0] {
				continue
			}
			restored = []api.Word{x}
		}
		if rest, ok := restoreByHand(w[1:], l[n:]); ok {
			return append(restored, rest...), true
		}
	}
	return nil, false
}

// lists returns all lists of at most that many of some tokens, the shorter ones first.
func lists(tokens []string, most int) [][]string {
	all, longest := [][]string{nil}, [][]string{nil}
	for range most {
		var longer [][]string
		for _, l := range longest {
			for _, token := range tokens {
				longer = append(longer, append(slices.Clone(l), token))
			}
		}
		all, longest = append(all, longer...), longer
	}
	return all
}

// wordLists returns all valid lists of at most that many words, of these tokens.
func wordLists(tokens string, most int) [][]api.Word {
	var all [][]api.Word
	for _, l := range lists(strings.Fields(tokens), most) {
		if s := strings.Join(l, " "); !strings.Contains(s, "... ...") {
			all = append(all, words(s))
		}
	}
	return all
}

// P4.7
func TestFits(t *testing.T) {
	sixteen := strings.TrimSpace(strings.Repeat("a ", 16))
	for _, x := range []struct {
		w, l string
		fits bool
	}{
		{"lugal# - uru", "lugal nin uru", true}, {"... [nin]", "", false}, {"... [nin]", "uru", true}, {"...", "", true}, {"", "", true}, {"", "a", false}, {"a", "", false}, {"a", "a", true}, {"a", "b", false}, {"a#", "a", true}, {"a#", "b", false}, {"[a]", "b", true}, {"[a]", "", false}, {"-", "b", true}, {"-", "", false}, {"-", "a b", false},
		{"a", "ab", false}, {"ab", "a", false}, {"... a ...", "b c", false}, {"... a ... b", "a a b b", true}, {"... a ... b", "b a", false}, {"... - ...", "", false}, {"... - ...", "a b c", true}, {"- ... -", "a", false}, {"- ... -", "a b", true}, {"a ... a", "a", false}, {"a ... a", "a a", true},
		{sixteen, sixteen, true}, {sixteen, sixteen + " a", false}, {strings.Repeat("a ... ", 8), sixteen, true}, {strings.Repeat("... b ", 8), sixteen, false},
		{"...", strings.Repeat("a ", 64), true}, {strings.Repeat("... a ", 8), strings.Repeat("a ", 63) + "b", false}, {strings.Repeat("... a ", 8), strings.Repeat("b ", 56) + strings.Repeat("a ", 8), true},
	} {
		got, e := tablet.Fits(words(x.w), strings.Fields(x.l))
		expect(t, "Fits("+x.w+", "+x.l+")", got, e, x.fits, api.OK)
	}
	for _, w := range wordLists("a b# - [a] ...", 4) {
		for _, l := range lists([]string{"a", "b"}, 5) {
			got, e := tablet.Fits(w, l)
			expect(t, "Fits("+show(w)+", "+show(l)+")", got, e, fitsByHand(w, l), api.OK)
		}
	}
}

// P4.7, P4.8: the errors of words and names, in their order.
func TestFitsErrors(t *testing.T) {
	names := strings.Fields(strings.Repeat("a ", 65))
	expectBoth := func(w []api.Word, l []string, e api.Errno) {
		t.Helper()
		fits, f := tablet.Fits(w, l)
		expectZero(t, "Fits("+show(w)+", "+show(l)+")", fits, f, e)
		restored, f := tablet.Restore(w, l)
		expectZero(t, "Restore("+show(w)+", "+show(l)+")", restored, f, e)
	}
	for _, w := range invalidWords() {
		for _, l := range [][]string{nil, names[:1], names, {"A"}} {
			expectBoth(w, l, api.ErrWords)
		}
	}
	for _, w := range [][]api.Word{nil, words("..."), words("a")} {
		expectBoth(w, names, api.ErrLimit)
		expectBoth(w, append([]string{"A"}, names...), api.ErrLimit)
		for _, name := range []string{"", "A", "1", "a b", "...", "-", longest + "q"} {
			expectBoth(w, []string{name}, api.ErrArg)
			expectBoth(w, append(names[:63:63], name), api.ErrArg)
		}
	}
}

// P4.7
func TestCommon(t *testing.T) {
	for _, x := range []struct {
		a, b, l string
		e       api.Errno
	}{
		{"... uru", "lugal ...", "lugal uru", api.OK}, {"- ...", "... lugal ...", "lugal", api.OK}, {"uru", "lugal", "", api.ErrNone}, {"- -", "... uru ...", "a uru", api.OK}, {"...", "...", "", api.OK}, {"", "", "", api.OK}, {"", "...", "", api.OK}, {"[uru] b", "c -", "c b", api.OK}, {"a", "", "", api.ErrNone}, {"-", "", "", api.ErrNone}, {"... b", "a ... a ... b", "a a b", api.OK},
		{"-", "-", "a", api.OK}, {"[b]", "[c]", "a", api.OK}, {"[b]", "...", "a", api.OK}, {"a#", "a", "a", api.OK}, {"a#", "b#", "", api.ErrNone}, {"a", "ab", "", api.ErrNone}, {"a b", "a", "", api.ErrNone}, {"a ...", "... b", "a b", api.OK}, {"b ...", "... b", "b", api.OK}, {"a ...", "b ...", "", api.ErrNone}, {"... a", "... b", "", api.ErrNone},
		{"... ab ...", "... a ...", "a ab", api.OK}, {"... b ...", "... a ...", "a b", api.OK}, {"... a1 ...", "... a ...", "a a1", api.OK}, {"... b ... a", "... c ...", "b c a", api.OK}, {"- b ...", "... c", "a b c", api.OK}, {"... b -", "... c ...", "b c", api.OK}, {"... z ...", "- ... y", "z y", api.OK}, {longest + " ...", "... - -", longest + " a", api.OK},
		{strings.Repeat("... b ", 8), strings.Repeat("... a ", 8), "", api.ErrNone}, {strings.Repeat("b ... ", 8), strings.Repeat("... a ", 8), "b a a a a a a a b b b b b b b a", api.OK}, {strings.Repeat("... b ", 7) + "...", strings.Repeat("... a ", 7) + "...", strings.Repeat("a ", 7) + strings.Repeat("b ", 7), api.OK},
	} {
		for _, pair := range [][2]string{{x.a, x.b}, {x.b, x.a}} {
			l, e := tablet.Common(words(pair[0]), words(pair[1]))
			expect(t, "Common("+pair[0]+", "+pair[1]+")", l, e, strings.Fields(x.l), x.e)
			is, e := tablet.Agree(words(pair[0]), words(pair[1]))
			expect(t, "Agree("+pair[0]+", "+pair[1]+")", is, e, x.e == api.OK, api.OK)
		}
	}
}

// P4.7: the errors of both lists of words.
func TestCommonErrors(t *testing.T) {
	for _, w := range invalidWords() {
		for _, v := range append(invalidWords(), nil, words("..."), words("a")) {
			for _, pair := range [][2][]api.Word{{v, w}, {w, v}} {
				is, e := tablet.Agree(pair[0], pair[1])
				expectZero(t, "Agree", is, e, api.ErrWords)
				l, e := tablet.Common(pair[0], pair[1])
				expectZero(t, "Common", l, e, api.ErrWords)
			}
		}
	}
}

// P4.7, P4.13: Common is the first of all lists that fit both, the shortest ones first, whichever of both is named first; every list of words agrees with itself.
func TestCommonAll(t *testing.T) {
	all, names := wordLists("a b# - [b] ...", 3), lists([]string{"a", "b"}, 6)
	fitting := make([][]bool, len(all))
	for i, w := range all {
		for _, l := range names {
			fitting[i] = append(fitting[i], fitsByHand(w, l))
		}
	}
	for i, a := range all {
		for j, b := range all {
			var want []string
			e := api.ErrNone
			for k, l := range names {
				if fitting[i][k] && fitting[j][k] {
					want, e = l, api.OK
					break
				}
			}
			l, f := tablet.Common(a, b)
			expect(t, "Common("+show(a)+", "+show(b)+")", l, f, want, e)
			is, f := tablet.Agree(a, b)
			expect(t, "Agree("+show(a)+", "+show(b)+")", is, f, e == api.OK, api.OK)
			if i == j && !is {
				t.Errorf("%s does not agree with itself", show(a))
			}
		}
	}
}

// P4.7, P4.13: so it is with longer lists of words that agree, because a list fits both.
func TestCommonLong(t *testing.T) {
	random := newRandom()
	for range 2000 {
		var l []string
		for range random.IntN(20) {
			l = append(l, pick(random, "a", "b", "ab", longest))
		}
		a, b := damaged(random.IntN, l), damaged(random.IntN, l)
		common, e := tablet.Common(a, b)
		again, f := tablet.Common(b, a)
		if e != api.OK || f != api.OK || !slices.Equal(common, again) || len(common) > len(l) || len(common) == len(l) && slices.Compare(common, l) > 0 || !fitsByHand(a, common) || !fitsByHand(b, common) {
			t.Errorf("Common(%s, %s): %v, error %d; both fit %v", show(a), show(b), common, e, l)
		}
		for _, w := range [][]api.Word{a, b} {
			fits, e := tablet.Fits(w, l)
			expect(t, "Fits("+show(w)+", "+show(l)+")", fits, e, true, api.OK)
		}
	}
}

// damaged returns at most 16 words that these names fit.
func damaged(intN func(int) int, l []string) []api.Word {
	var tokens []string
	add := func(token string) {
		if token != "..." || len(tokens) == 0 || tokens[len(tokens)-1] != "..." {
			tokens = append(tokens, token)
		}
	}
	for _, name := range l {
		switch intN(8) {
		case 0, 1:
			add("...")
		case 2:
			add("-")
		case 3:
			add("[" + name + "]")
		case 4:
			add(name + "#")
		case 5:
			add("...")
			add(name)
		default:
			add(name)
		}
	}
	if len(tokens) > 16 {
		tokens = append(tokens[:15], "...")
		if tokens[14] == "..." {
			tokens = tokens[:15]
		}
	}
	return words(strings.Join(tokens, " "))
}

// P4.8
func TestRestore(t *testing.T) {
	for _, x := range []struct {
		w, l, want string
		e          api.Errno
	}{
		{"... lugal ...", "lugal uru lugal", "lugal [uru] [lugal]", api.OK}, {"", "", "", api.OK}, {"...", "", "", api.OK}, {"...", "a b", "[a] [b]", api.OK}, {"a b# [c] -", "a b d e", "a b# [d] [e]", api.OK}, {"... - ...", "a b c", "[a] [b] [c]", api.OK},
		{"... a# ... a ...", "b a c a d a", "[b] a# [c] a [d] [a]", api.OK}, {"... a# ... a", "a a a", "a# [a] a", api.OK}, {"... a ... b", "a b a b", "a [b] [a] b", api.OK}, {"... a# b", "a b a b", "[a] [b] a# b", api.OK}, {"... [a] ...", "a", "[a]", api.OK}, {"- ...", "a", "[a]", api.OK}, {"... -", "a", "[a]", api.OK}, {"a ...", "a", "a", api.OK},
		{"a", "b", "", api.ErrNone}, {"", "a", "", api.ErrNone}, {"-", "", "", api.ErrNone}, {"a ... a", "a", "", api.ErrNone}, {"-", strings.Repeat("a ", 17), "", api.ErrNone}, {"b ...", strings.Repeat("a ", 64), "", api.ErrNone},
		{"...", strings.Repeat("a ", 16), strings.Repeat("[a] ", 16), api.OK}, {"... a# ...", strings.Repeat("a ", 16), "a# " + strings.Repeat("[a] ", 15), api.OK}, {strings.Repeat("- ", 16), strings.Repeat("a ", 16), strings.Repeat("[a] ", 16), api.OK},
		{"...", strings.Repeat("a ", 17), "", api.ErrLimit}, {"... a ...", strings.Repeat("a ", 17), "", api.ErrLimit}, {"...", strings.Repeat("a ", 64), "", api.ErrLimit},
	} {
		got, e := tablet.Restore(words(x.w), strings.Fields(x.l))
		expect(t, "Restore("+x.w+", "+x.l+")", got, e, words(x.want), x.e)
	}
	for _, w := range wordLists("a b# - [a] ...", 4) {
		for _, l := range lists([]string{"a", "b"}, 5) {
			want, ok := restoreByHand(w, l)
			e := api.OK
			if !ok {
				want, e = nil, api.ErrNone
			}
			got, f := tablet.Restore(w, l)
			expect(t, "Restore("+show(w)+", "+show(l)+")", got, f, want, e)
		}
	}
}

// P4.13: everything that fits a restored list of words fits the original one, which agrees with it.
func TestRestoreAgrees(t *testing.T) {
	names := lists([]string{"a", "b"}, 4)
	for _, w := range wordLists("a b# - [b] ...", 3) {
		for _, l := range names {
			restored, e := tablet.Restore(w, l)
			if e != api.OK {
				continue
			}
			if is, f := tablet.Agree(w, restored); !is || f != api.OK || tablet.CheckWords(restored) != api.OK || !fitsByHand(restored, l) {
				t.Errorf("Restore(%s, %v): %s, which agrees: %v", show(w), l, show(restored), is)
			}
			for _, m := range names {
				if fits, _ := tablet.Fits(restored, m); fits && !fitsByHand(w, m) {
					t.Errorf("%v fits %s, but not %s", m, show(restored), show(w))
				}
			}
		}
	}
}
