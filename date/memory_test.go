package date_test

import (
	"fmt"
	"testing"

	"bulla/api"
	"bulla/date"
)

// roomy returns a copy of a list with memory behind it.
func roomy[T any](l []T) []T { return append(make([]T, 0, len(l)+20), l...) }

// room writes out all memory of a list.
func room[T any](l []T) string { return fmt.Sprintf("%+v", l[:cap(l)]) }

// spoil overwrites all memory of a list.
func spoil[T any](l []T, x T) {
	for i := range l[:cap(l)] {
		l[:cap(l)][i] = x
	}
}

// P7.10, R4: arguments are only read, also behind their ends.
func TestArgumentsStay(t *testing.T) {
	c := example()
	c.Kings, c.Years = roomy(c.Kings), roomy(c.Years)
	x := arguments{c: c, a: day(0, 12, 30), b: day(1, 2, 1), t: api.DateTrace{Name: "wall"}, n: 1, names: roomy(names("a", "b")), l: roomy(make([]api.DateTrace, 3)), further: "ur"}
	text := func() string { return room(c.Kings) + room(c.Years) + room(x.names) + room(x.l) }
	before := text()
	for name, call := range calls(x) {
		if _, e := call(); e != api.OK {
			t.Errorf("%s: error %d", name, e)
		}
		if text() != before {
			t.Fatalf("%s changes an argument", name)
		}
	}
}

// P7.10, R4: a result shares no memory with an argument, nor with that of an earlier call.
func TestResultsAreNew(t *testing.T) {
	c := example()
	c.Kings, c.Years = roomy(c.Kings), roomy(c.Years)
	for _, added := range [][]string{nil, roomy(names("a", "b"))} {
		x, e := date.Extend(c, added, 17)
		expectError(t, "Extend", e, api.OK)
		want := show(x)
		spoil(x.Kings, "spoilt")
		spoil(x.Years, api.Year{Name: "spoilt"})
		expect(t, "the calendar after a change of the extended one", c, api.OK, example(), api.OK)
		y, e := date.Extend(c, added, 17)
		expect(t, "Extend once more", show(y), e, want, api.OK)
		spoil(added, "spoilt")
		if show(y) != want {
			t.Errorf("Extend retains the names")
		}
	}
	for range 2 {
		l, e := date.Named(c, "wall", "")
		expect(t, "Named", l, e, []int{0, 2}, api.OK)
		spoil(l, -7)
		s, e := date.Spans(c, api.DateTrace{Name: "wall"})
		expect(t, "Spans", s, e, spans(span(1, 360), span(738, 1097)), api.OK)
		spoil(s, span(-7, -7))
		s, e = date.Series(c, make([]api.DateTrace, 2))
		expect(t, "Series", s, e, spans(span(1, 1097), span(1, 1097)), api.OK)
		spoil(s, span(-7, -7))
	}
	x, e := date.Extend(c, names("a"), 17)
	expectError(t, "Extend", e, api.OK)
	spoil(c.Kings, "spoilt")
	spoil(c.Years, api.Year{Name: "spoilt"})
	if x.Kings[0] != "ur" || x.Years[0].Name != "wall" {
		t.Errorf("Extend retains the calendar")
	}
}

// P1, R3: nil and empty lists are the same.
func TestEmptyLists(t *testing.T) {
	c := example()
	x, e := date.Extend(c, []string{}, 1)
	expect(t, "Extend with an empty list", x, e, c, api.OK)
	l, e := date.Series(c, []api.DateTrace{})
	expect(t, "Series of an empty list", l, e, nil, api.OK)
}
