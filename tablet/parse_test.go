package tablet_test

import (
	"strconv"
	"strings"
	"testing"

	"bulla/api"
	"bulla/tablet"
)

// misspelt is a text with an error.
type misspelt struct {
	s    string
	line int
	e    api.Errno
}

func expectParse(t *testing.T, s string, want api.Tablet) {
	t.Helper()
	x, line, e := tablet.Parse(s)
	if show(x) != show(want) || line != 0 || e != api.OK {
		t.Errorf("Parse(%.300q): %.300s, line %d, error %d; want %.300s", s, show(x), line, e, show(want))
	}
}

func expectParseError(t *testing.T, x misspelt) {
	t.Helper()
	got, line, e := tablet.Parse(x.s)
	if show(got) != show(api.Tablet{}) || line != x.line || e != x.e {
		t.Errorf("Parse(%.300q): %.100s, line %d, error %d; want line %d, error %d", x.s, show(got), line, e, x.line, x.e)
	}
}

// P4.3
func TestParse(t *testing.T) {
	expectParse(t, sample, sampleTablet())
	expectParse(t, printedSample, sampleTablet())
	expectParse(t, strings.TrimSuffix(sample, "\n"), sampleTablet())
	for _, s := range []string{"tablet p2\nend", "tablet p2\nend\n", "\n\n  \ntablet p2\n\nend\n\n \n", "# x\n#\n #face\ntablet p2\n#end\nend\n#\n# tablet p2", "  tablet   p2  \n end ", "tablet p2\nface top\ncolumn 7\nface left\nend", "tablet p2\ncolumn 3\nend", "tablet p2\ncolumn 0\ncolumn 9999\nend"} {
		expectParse(t, s, named("p2"))
	}
	for _, x := range []struct {
		line string
		c    api.Case
	}{
		{"1 note", note(5, 2, 1, "")}, {"  99   note   :   a   ", note(5, 2, 99, "a")}, {"1 note : - ... a b# [c]", note(5, 2, 1, "- ... a b# [c]")}, {"1 note : entry total# [end] face", note(5, 2, 1, "entry total# [end] face")},
		{"1 entry 1(a)", entry(5, 2, 1, "1(a)", "", "")}, {"1 entry 2(n14)   la2  1(n01) ; la2", entry(5, 2, 1, "2(n14) la2 1(n01)", "la2", "")}, {"7 entry [...] 3+(a) : ...", entry(5, 2, 7, "[...] 3+(a)", "", "...")}, {"1 entry 1(a) ;  note  : x", entry(5, 2, 1, "1(a)", "note", "x")},
		{"1 subtotal 1(a) ; b : c", kind(2, entry(5, 2, 1, "1(a)", "b", "c"))}, {"1 total 1(a) ; b : c", kind(3, entry(5, 2, 1, "1(a)", "b", "c"))}, {"10 note : " + longest + " " + longest + "# [" + longest + "]", note(5, 2, 10, longest+" "+longest+"# ["+longest+"]")},
		{"1 note :" + strings.Repeat(" - ...", 8), note(5, 2, 1, strings.Repeat("- ... ", 8))},
	} {
		expectParse(t, "tablet p\nface top\ncolumn 2\n"+x.line+"\nend", named("p", x.c))
	}
	faces := named("p")
	s := "tablet p"
	for i, face := range []string{"obverse", "reverse", "left", "right", "top", "bottom"} {
		s += "\nface " + face + "\ncolumn " + strconv.Itoa(12-i) + "\n1 note"
		faces.Cases = append(faces.Cases, note(1+i, 12-i, 1, ""))
	}
	expectParse(t, s+"\nend", faces)
	expectParse(t, "tablet p\ncolumn 5\nface top\ncolumn 5\ncolumn 1\n1 note\n\ncolumn 1\n# x\n5 note\nface top\ncolumn 2\n1 note\nend", named("p", note(5, 1, 1, ""), note(5, 1, 5, ""), note(5, 2, 1, "")))
}

// P4.3: the first line, and texts that say nothing.
func TestParseHead(t *testing.T) {
	for _, s := range []string{"", "\n", "# nothing", " \n  #\n\n# tablet p1\n", "#"} {
		expectParseError(t, misspelt{s, 0, api.ErrHead})
	}
	for _, line := range []string{
		"face obverse", "end", "column 1", "1 note", "tablet", "tablet P", "tablet 1", "tablet p1 p2", "tablet p1 #", "tablets p1", "Tablet p1", "tablet\tp1", "tablet p1\r", "tablet p1\t", "tablet " + longest + "q", "tablet _", "tablet #", "tablet :", "p1", "tabletp1", "x", "\t", "\r", "\x00", "\v# x", "\xff",
	} {
		expectParseError(t, misspelt{line, 1, api.ErrHead})
		expectParseError(t, misspelt{line + "\ntablet p1\nend", 1, api.ErrHead})
		expectParseError(t, misspelt{"\n# tablet\n " + line + "\nx", 3, api.ErrHead})
	}
}

// P4.3: the last line.
func TestParseEnd(t *testing.T) {
	for _, s := range []string{"tablet p1", "tablet p1\n", "tablet p1\n# end\n", "tablet p1\nface top\ncolumn 1\n1 note\n", "tablet end\n"} {
		expectParseError(t, misspelt{s, 0, api.ErrForm})
	}
	for _, line := range []string{"end", "tablet p1", "face top", "column 1", "2 note", "x", "1 note : ... ..."} {
		expectParseError(t, misspelt{"tablet p1\nface top\ncolumn 1\n1 note\nend\n" + line, 6, api.ErrForm})
		expectParseError(t, misspelt{"tablet p1\nend\n\n#\n" + line + "\nend x", 5, api.ErrForm})
	}
}

// P4.3: lines that are none, wherever they stand.
func TestParseLines(t *testing.T) {
	for _, line := range []string{
		"tablet p1", "tablet", "x", "face", "face x", "face Top", "face top top", "face 1", "face #", "faces top", "face top #", "column", "column x", "column 1 1", "column 01", "column 00", "column -1", "column -0", "column +1", "column 10000", "column 99999999999999999999", "column 1_0", "column 0x1", "column 1.", "column \u0661", "column 1 # x", "columns 1", "end x", "end end", "end #", "END",
		"1", "note", "note 1", "x note", "01 note", "-1 note", "+1 note", "-0 note", "10000 note", "00 note", "1e1 note", "99999999999999999999 note", "1note", "1 x", "1 x 1(a)", "1 x 1(a) ; b : c", "1 entries 1(a)", "1 Note", "1 notes", "1 1", "1 :", "1 ;", "1 note\r", "1\tnote",
		"1 note x", "1 note 1(a)", "1 note [...]", "1 note ; a", "1 note ; a : b", "1 note 1(a) ; b", "1 note 1(a) : b", "1 note ;", "1 note :", "1 note : :", "1 note ; : a", "1 note ; :", "1 note # x", "1 note : a ;", "1 note : a ; b", "1 note : a : b", "1 note : a # b",
		"1 entry", "1 entry ; a", "1 entry : a", "1 entry ; a : b", "1 entry x", "1 entry 1", "1 entry 1(a) x", "1 entry 1(a) 1(a)", "1 entry [...] [...]", "1 entry 1(a) la2", "1 entry la2 1(a)", "1 entry 1+(a) la2 1(b)", "1 entry 01(a)", "1 entry 1(a)\t2(b)", "1 entry 1(a) -", "1 entry 1(a) ...", "1 entry 1(a);", "1 entry 1(a): b",
		"1 entry 1(a) ;", "1 entry 1(a) ; :", "1 entry 1(a) ; : b", "1 entry 1(a) ; A", "1 entry 1(a) ; 1", "1 entry 1(a) ; a b", "1 entry 1(a) ; a b : c", "1 entry 1(a) ; a ; b", "1 entry 1(a) ; a ; b : c", "1 entry 1(a) ; ; b", "1 entry 1(a) ; a#", "1 entry 1(a) ; [a]", "1 entry 1(a) ; -", "1 entry 1(a) ; " + longest + "q", "1 entry 1(a) ; 1(a)",
		"1 entry 1(a) :", "1 entry 1(a) ; a :", "1 entry 1(a) : ; a", "1 entry 1(a) : b ; a", "1 entry 1(a) : :", "1 total", "1 subtotal", "1 total ; a", "1 subtotal 1(a) ;", "1 total 1(a) :",
	} {
		for _, before := range []string{"tablet p\nface obverse\ncolumn 1\n", "tablet p\n# x\nface obverse\n\ncolumn 2\n", "tablet p\nface obverse\ncolumn 99\n", "tablet p\nface obverse\ncolumn 1\n1 entry 1(a)\n"} {
			for _, after := range []string{"", "\n", "\nend", "\nx\nend\nend"} {
				expectParseError(t, misspelt{before + line + after, 1 + strings.Count(before, "\n"), api.ErrForm})
			}
		}
	}
}

// P4.3: tokens that are no words.
func TestParseWords(t *testing.T) {
	for _, token := range []string{
		"A", "1", "_", "a-b", "a##", "#", "#a", "[a", "a]", "[]", "[", "]", "][", "[a]#", "[a#]", "[[a]]", "[a]]", "[A]", "A#", "--", "-#", "[-]", "..", "....", "...#", "[...]", "\u2026", longest + "q", longest + "q#", "[" + longest + "q]", "1(a)", "a\t", "a\r", "ä", "\xff", ":", ";",
	} {
		for _, before := range []string{"", "a ", "... ", "... ... ", strings.Repeat("a ", 16)} {
			expectParseError(t, misspelt{"tablet p\nface top\ncolumn 1\n1 note : " + before + token + "\nend", 4, api.ErrForm})
			expectParseError(t, misspelt{"tablet p\nface top\ncolumn 13\n0 entry 1(a) ; b : " + before + token + " a", 4, api.ErrForm})
		}
	}
}

// P4.3: cases before which no face, or no column, was set.
func TestParseUnset(t *testing.T) {
	for _, s := range []string{"tablet p\n", "tablet p\nface top\n", "tablet p\ncolumn 1\n", "tablet p\ncolumn 1\nface top\n", "tablet p\nface top\ncolumn 1\nface top\n", "tablet p\nface top\ncolumn 1\n1 note\nface bottom\n"} {
		for _, line := range []string{"2 note", "2 entry 1(a) ; b : c", "0 note : ... ..."} {
			expectParseError(t, misspelt{s + line + "\nend", 1 + strings.Count(s, "\n"), api.ErrForm})
		}
	}
	expectParseError(t, misspelt{strings.Replace(sample, "column 1\n1 total 5(n14)", "1 total 5(n14)\ncolumn 1", 1), 10, api.ErrForm})
}

// P4.3: the errors of cases, in their order.
func TestParseCases(t *testing.T) {
	top := "tablet p\nface top\n"
	for _, x := range []misspelt{
		{top + "column 0\n1 note", 4, api.ErrCase}, {top + "column 13\n1 note", 4, api.ErrCase}, {top + "column 9999\n1 note\nend", 4, api.ErrCase}, {top + "column 1\n0 note", 4, api.ErrCase}, {top + "column 1\n100 note", 4, api.ErrCase}, {top + "column 1\n9999 note\nend", 4, api.ErrCase},
		{top + "column 0\n1 note : ... ...", 4, api.ErrCase}, {top + "column 1\n2 note\n0 note : ... ...", 5, api.ErrCase}, {top + "column 2\n2 note\ncolumn 0\n1 note", 6, api.ErrCase},
		{top + "column 1\n1 note : ... ...\nend", 4, api.ErrWords}, {top + "column 1\n1 note : a ... ... b", 4, api.ErrWords}, {top + "column 1\n1 note :" + strings.Repeat(" a", 17), 4, api.ErrWords}, {top + "column 1\n2 note\n1 note : ... ...", 5, api.ErrWords},
		{top + "column 1\n1 note\n1 note\nend", 5, api.ErrSequence}, {top + "column 1\n2 note\n1 note", 5, api.ErrSequence}, {top + "column 2\n1 note\ncolumn 1\n2 note", 6, api.ErrSequence}, {top + "column 1\n1 note\nface obverse\ncolumn 2\n2 note", 7, api.ErrSequence}, {top + "column 1\n1 note\ncolumn 1\n1 note", 6, api.ErrSequence}, {top + "column 1\n1 note\nface top\ncolumn 1\n\n1 note", 8, api.ErrSequence},
		{top + "column 1\n1 note\n1 note x", 5, api.ErrForm}, {top + "column 1\n1 note\n1 note\nx", 5, api.ErrSequence},
	} {
		expectParseError(t, x)
	}
}

// P4.3: at most 256 cases; the other errors of the 257th one come first.
func TestParseMany(t *testing.T) {
	full := printed(t, notes(256))
	expectParse(t, full, notes(256))
	full = strings.TrimSuffix(full, "end\n")
	n := 1 + strings.Count(full, "\n")
	for _, x := range []misspelt{
		{full + "99 note\nend\n", n, api.ErrLimit}, {full + "\n#\n99 entry 1(a) ; b : c", n + 2, api.ErrLimit}, {full + "0 note", n, api.ErrCase}, {full + "99 note : ... ...", n, api.ErrWords}, {full + "1 note", n, api.ErrSequence}, {full + "99 note x", n, api.ErrForm}, {full + "face top\n99 note", n + 1, api.ErrForm},
		{full + "face top\ncolumn 3\n99 note", n + 2, api.ErrLimit}, {full + "face top\ncolumn 13\n99 note", n + 2, api.ErrCase}, {full, 0, api.ErrForm},
	} {
		expectParseError(t, x)
	}
}

// P4.3: at most 65536 bytes, whatever they are.
func TestParseLimit(t *testing.T) {
	short := "tablet p\nend\n"
	for _, fill := range []string{"\n", " ", "#", "# "} {
		s := short + strings.Repeat(fill, api.MaxText)
		expectParse(t, s[:api.MaxText], named("p"))
		expectParseError(t, misspelt{s[:api.MaxText+1], 0, api.ErrLimit})
		expectParseError(t, misspelt{s, 0, api.ErrLimit})
	}
	for _, fill := range []string{"x", "\n", "x\n", " x", "1 "} {
		expectParseError(t, misspelt{strings.Repeat(fill, api.MaxText+1)[:api.MaxText+1], 0, api.ErrLimit})
	}
	expectParseError(t, misspelt{strings.Repeat("\n", api.MaxText), 0, api.ErrHead})
	expectParseError(t, misspelt{strings.Repeat("\n", api.MaxText-1) + "x", api.MaxText, api.ErrHead})
	ended := short + strings.Repeat("\n", api.MaxText-len(short)-1) + "x"
	expectParseError(t, misspelt{ended, 1 + strings.Count(ended, "\n"), api.ErrForm})
	expectParseError(t, misspelt{("tablet p\nface top\ncolumn 1\n1 entry" + strings.Repeat(" 1(a)", 20000))[:api.MaxText], 4, api.ErrForm})
	expectParseError(t, misspelt{("tablet p\nface top\ncolumn 1\n1 note :" + strings.Repeat(" a", 40000))[:api.MaxText], 4, api.ErrWords})
}

// P4.10: what is printed is parsed as the same tablet, and printed again as the same text.
func TestParsePrinted(t *testing.T) {
	random := newRandom()
	for i := range 600 {
		x := someTablet(random, 1+i%60)
		s := printed(t, x)
		expectParse(t, s, x)
		if y := parsed(t, s); !tablet.Same(x, y) || printed(t, y) != s {
			t.Errorf("Print(%.300s): %q", show(x), s)
		}
	}
}

// P4.10: so is a text that differs from a printed one, if it is parsed; otherwise the line is one of the text, or 0.
func TestParseMisspelt(t *testing.T) {
	count := 0
	expectAgain := func(s string) {
		x, line, e := tablet.Parse(s)
		if e != api.OK {
			if show(x) != show(api.Tablet{}) || line < 0 || line > 1+strings.Count(s, "\n") {
				t.Errorf("Parse(%q): %s, line %d, error %d", s, show(x), line, e)
			}
			return
		}
		count++
		if line != 0 || tablet.Check(x) != api.OK || !tablet.Same(parsed(t, printed(t, x)), x) {
			t.Errorf("Parse(%q): %s, line %d", s, show(x), line)
		}
	}
	for i := range len(sample) {
		for c := range 256 {
			expectAgain(sample[:i] + string([]byte{byte(c)}) + sample[i+1:])
			expectAgain(sample[:i] + string([]byte{byte(c)}) + sample[i:])
		}
		expectAgain(sample[:i] + sample[i+1:])
	}
	lines := strings.SplitAfter(sample, "\n")
	for i := range lines {
		for j := range lines {
			changed := append([]string{}, lines...)
			changed[i], changed[j] = changed[j], changed[i]
			expectAgain(strings.Join(changed, ""))
		}
	}
	if count < 1000 {
		t.Errorf("only %d texts were parsed", count)
	}
}
