package tablet_test

import (
	"testing"

	"bulla/api"
	"bulla/tablet"
)

// P4.2
func TestPrint(t *testing.T) {
	for _, x := range []struct {
		t    api.Tablet
		text string
	}{
		{sampleTablet(), printedSample}, {named("p2"), "tablet p2\nend\n"},
		{named("a", note(6, 12, 99, "")), "tablet a\nface bottom\ncolumn 12\n99 note\nend\n"},
		{named("a", kind(2, entry(3, 2, 7, "2(n14) la2 1(n01)", "", "- ... a b# [c]"))), "tablet a\nface left\ncolumn 2\n7 subtotal 2(n14) la2 1(n01) : - ... a b# [c]\nend\n"},
		{named("a", entry(1, 1, 1, "3+(n14) [...] 2(n01)", "oil", "")), "tablet a\nface obverse\ncolumn 1\n1 entry 3+(n14) [...] 2(n01) ; oil\nend\n"},
		{named("a", note(1, 2, 1, ""), note(2, 2, 1, ""), note(3, 2, 2, ""), note(3, 2, 3, ""), note(3, 3, 1, ""), note(4, 3, 2, ""), note(5, 1, 10, ""), note(6, 1, 1, "")),
			"tablet a\nface obverse\ncolumn 2\n1 note\nface reverse\ncolumn 2\n1 note\nface left\ncolumn 2\n2 note\n3 note\ncolumn 3\n1 note\nface right\ncolumn 3\n2 note\nface top\ncolumn 1\n10 note\nface bottom\ncolumn 1\n1 note\nend\n"},
	} {
		got, e := tablet.Print(x.t)
		expect(t, "Print", got, e, x.text, api.OK)
	}
	for _, x := range someInvalid() {
		got, e := tablet.Print(x.t)
		expectZero(t, "Print", got, e, x.e)
	}
}

// filling returns words whose tokens, each with a blank before it, take so many bytes.
func filling(bytes int) []api.Word {
	var l []api.Word
	for bytes > 0 {
		size := min(16, bytes-1)
		if bytes-1-size == 1 { // no word is that short
			size--
		}
		l = append(l, api.Word{Text: longest[:size], State: api.WordIntact})
		bytes -= 1 + size
	}
	return l
}

// sized returns a tablet whose text has so many bytes, about 65536.
func sized(t *testing.T, bytes int) api.Tablet {
	t.Helper()
	x := named("big")
	size := 0
	for i, c := range notes(256).Cases {
		if i < 220 {
			c.Words = filling(16 * 17)
		} else if size < bytes-200 {
			c.Words = filling(8 * 17)
		}
		x.Cases = append(x.Cases, c)
		if size = len(printed(t, x)); len(c.Words) == 0 {
			x.Cases[i].Words = filling(bytes - size - len(" :"))
			break
		}
	}
	return x
}

// P4.2: a text of 65536 bytes is printed, one more is too much.
func TestPrintLimit(t *testing.T) {
	for bytes := api.MaxText - 20; bytes <= api.MaxText; bytes++ {
		x := sized(t, bytes)
		text := printed(t, x)
		if len(text) != bytes {
			t.Fatalf("a text of %d bytes instead of %d", len(text), bytes)
		}
		if !tablet.Same(parsed(t, text), x) {
			t.Errorf("the text of %d bytes is not parsed as what was printed", bytes)
		}
	}
	x := sized(t, api.MaxText)
	x.Name = "bigg"
	got, e := tablet.Print(x)
	expectZero(t, "Print of 65537 bytes", got, e, api.ErrLimit)
	x.Name = "BIG"
	got, e = tablet.Print(x)
	expectZero(t, "Print of an invalid tablet", got, e, api.ErrHead)
	x = notes(256)
	for i := range x.Cases {
		x.Cases[i].Words = filling(16 * 17)
	}
	got, e = tablet.Print(x)
	expectZero(t, "Print of much more", got, e, api.ErrLimit)
}
