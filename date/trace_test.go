package date_test

import (
	"fmt"
	"regexp"
	"slices"
	"strings"
	"testing"

	"bulla/api"
	"bulla/date"
)

func invalidTraces() []api.DateTrace {
	return []api.DateTrace{
		{Day: -1}, {Day: 31}, {Day: mostInt}, {Day: leastInt}, {More: true}, {Day: -1, More: true}, {Day: 31, More: true},
		{Month: -1}, {Month: 13}, {Month: mostInt}, {Month: leastInt}, {Second: true}, {Month: 13, Second: true}, {Month: -1, Second: true},
		{Name: "A"}, {Name: "1"}, {Name: "-"}, {Name: "a b"}, {Name: "a/b"}, {Name: "+a"}, {Name: "a@b"}, {Name: longest + "a"},
		{Name: "a", After: -1}, {Name: "a", After: 4}, {Name: "a", After: mostInt}, {Name: "a", After: leastInt}, {After: 1}, {After: -1}, {After: 3, King: "ur"},
		{King: "A"}, {King: "1"}, {King: "-"}, {King: longest + "a"}, {Name: "a", King: "a/"}, {Name: "a", King: "@a"},
	}
}

// allTraces returns traces with all days and months, and some years, also invalid ones.
func allTraces() []api.DateTrace {
	var l []api.DateTrace
	for day := -1; day <= 32; day++ {
		for month := -1; month <= 14; month++ {
			for i := range 4 {
				for _, y := range []api.DateTrace{{}, {Name: "a"}, {Name: "wall", After: 1}, {Name: longest, After: 3}, {Name: "a", After: 2, King: "b"}, {King: longest}, {After: 1}, {Name: "wall", After: 4}, {Name: "A"}, {King: "-"}} {
					y.Day, y.Month, y.More, y.Second = day, month, i&1 != 0, i&2 != 0
					l = append(l, y)
				}
			}
		}
	}
	return l
}

var isName = regexp.MustCompile(`^[a-z][a-z0-9_]{0,15}$`).MatchString

// isTrace reports whether a trace is valid, as the chapter defines it.
func isTrace(t api.DateTrace) bool {
	switch {
	case t.Day < 0, t.Day > 30, t.Month < 0, t.Month > 12, t.After < 0, t.After > 3:
		return false
	case t.More && t.Day == 0, t.Second && t.Month == 0, t.Name == "" && t.After != 0:
		return false
	}
	return (t.Name == "" || isName(t.Name)) && (t.King == "" || isName(t.King))
}

// textOf returns the text of a valid trace, as the chapter defines it.
func textOf(t api.DateTrace) string {
	parts := names("-", "-", "-")
	if t.Day != 0 {
		parts[0] = fmt.Sprint(t.Day)
	}
	if t.More {
		parts[0] += "+"
	}
	if t.Month != 0 {
		parts[1] = fmt.Sprint(t.Month)
	}
	if t.Second {
		parts[1] += "b"
	}
	if t.Name != "" {
		parts[2] = "+++"[:t.After] + t.Name
	}
	if t.King != "" {
		parts[2] += "@" + t.King
	}
	return strings.Join(parts, "/")
}

// P7.6, P7.13
func TestTextAndParse(t *testing.T) {
	valid := 0
	for _, x := range append(allTraces(), invalidTraces()...) {
		want, e := "", api.ErrTrace
		if isTrace(x) {
			want, e = textOf(x), api.OK
			valid++
		}
		expectError(t, fmt.Sprintf("CheckTrace(%+v)", x), date.CheckTrace(x), e)
		s, got := date.Text(x)
		expect(t, fmt.Sprintf("Text(%+v)", x), s, got, want, e)
		if e == api.OK {
			y, e := date.Parse(s)
			expect(t, fmt.Sprintf("Parse(%s)", s), y, e, x, api.OK)
		}
	}
	if valid < 3000 {
		t.Errorf("only %d traces are valid", valid)
	}
}

// P7.6, P7.7: invalid traces.
func TestInvalidTraces(t *testing.T) {
	c := example()
	for _, x := range invalidTraces() {
		expectError(t, fmt.Sprintf("CheckTrace(%+v)", x), date.CheckTrace(x), api.ErrTrace)
		s, e := date.Text(x)
		expect(t, fmt.Sprintf("Text(%+v)", x), s, e, "", api.ErrTrace)
		is, e := date.Fits(c, x, day(0, 1, 1))
		expect(t, fmt.Sprintf("Fits(%+v)", x), is, e, false, api.ErrTrace)
		l, e := date.Spans(c, x)
		expect(t, fmt.Sprintf("Spans(%+v)", x), l, e, nil, api.ErrTrace)
		for _, series := range [][]api.DateTrace{{x}, {{}, x}, {x, {}}, slices.Repeat([]api.DateTrace{x}, 64)} {
			l, e = date.Series(c, series)
			expect(t, fmt.Sprintf("Series(%+v)", series), l, e, nil, api.ErrTrace)
		}
	}
}

// P7.6
func TestParse(t *testing.T) {
	for _, x := range []struct {
		s string
		t api.DateTrace
	}{
		{"-/-/-", api.DateTrace{}}, {"1/2/wall", api.DateTrace{Day: 1, Month: 2, Name: "wall"}}, {"12+/-/+wall@ur", api.DateTrace{Day: 12, More: true, Name: "wall", After: 1, King: "ur"}}, {"-/6b/wall", api.DateTrace{Month: 6, Second: true, Name: "wall"}},
		{"30/12b/+++a", api.DateTrace{Day: 30, Month: 12, Second: true, Name: "a", After: 3}}, {"-/-/-@si", api.DateTrace{King: "si"}}, {"9+/1/" + longest + "@" + longest, api.DateTrace{Day: 9, More: true, Month: 1, Name: longest, King: longest}},
		{"30+/12b/+++" + longest + "@" + longest, api.DateTrace{Day: 30, More: true, Month: 12, Second: true, Name: longest, After: 3, King: longest}}, {"1/1b/b@b", api.DateTrace{Day: 1, Month: 1, Second: true, Name: "b", King: "b"}},
	} {
		y, e := date.Parse(x.s)
		expect(t, fmt.Sprintf("Parse(%s)", x.s), y, e, x.t, api.OK)
	}
	for _, s := range names(
		"", "/", "//", "///", "-", "-/-", "-/-/", "/-/-", "-//-", "1/1", "1/1/", "1/1/a/", "1/1/a/b", "/1/1/a", "-/-/-/-",
		"0/1/-", "31/1/-", "01/1/-", "00/1/-", "+1/1/-", "-1/1/-", "1-/1/-", "-+/1/-", "0+/1/-", "31+/1/-", "1++/1/-", "+/1/-", "1b/1/-", "a/1/-", "1 /1/-", "1.0/1/-", "0x1/1/-", "1_0/1/-", "１/1/-", "18446744073709551617/1/-", "99999999999999999999/1/-", "b/-/-", "-b/-/-", "--/-/-",
		"1/0/-", "1/13/-", "1/01/-", "1/+1/-", "1/-1/-", "1/-b/-", "1/0b/-", "1/13b/-", "1/1bb/-", "1/b/-", "1/b1/-", "1/1+/-", "1/1B/-", "1/a/-", "1/--/-", "1/1 /-", "1/18446744073709551617/-",
		"1/1/+-", "1/1/+", "1/1/++++a", "1/1/a+", "1/1/a++b", "1/1/-a", "1/1/--", "1/1/A", "1/1/1a", "1/1/_a", "1/1/"+longest+"a", "1/1/ a", "1/1/a ",
		"1/1/a@", "1/1/@", "1/1/@ur", "1/1/-@", "1/1/+-@ur", "1/1/+@ur", "1/1/a@A", "1/1/a@-", "1/1/a@+b", "1/1/a@b@c", "1/1/a@@b", "1/1/a@"+longest+"a", "1/1/-@-", "1@ur/1/-", "1/1@ur/a",
		" 1/1/-", "1/1/-\n", "1/1/-\x00", "1\n/1/-", "1/1/é", strings.Repeat("a", 70000), strings.Repeat("/", 70000), "1/1/"+strings.Repeat("+", 70000), "1/1/a@"+strings.Repeat("a", 70000), strings.Repeat("0", 70000)+"/1/-",
	) {
		y, e := date.Parse(s)
		expect(t, fmt.Sprintf("Parse(%.100q)", s), y, e, api.DateTrace{}, api.ErrForm)
	}
}

// P7.6: texts in which something is changed, against the form of a text as a pattern.
func TestParseOfChangedTexts(t *testing.T) {
	form := regexp.MustCompile(`^(-|([1-9]|[12][0-9]|30)\+?)/(-|([1-9]|1[0-2])b?)/(-|\+{0,3}[a-z][a-z0-9_]{0,15})(@[a-z][a-z0-9_]{0,15})?$`)
	random, good := newRandom(), 0
	for range 100000 {
		s := textOf(randomTrace(random, randomCalendar(random)))
		for range 1 + random.IntN(3) {
			i := random.IntN(len(s) + 1)
			switch put := pick(random, names("-", "+", "/", "@", "b", "a", "0", "1", "2", "3", "9", "_", "A", " ")...); random.IntN(3) {
			case 0:
				s = s[:i] + put + s[i:]
			case 1:
				s = s[:i] + put + s[min(i+1, len(s)):]
			case 2:
				s = s[:i] + s[min(i+1, len(s)):]
			}
		}
		x, e := date.Parse(s)
		if !form.MatchString(s) {
			expect(t, fmt.Sprintf("Parse(%q)", s), x, e, api.DateTrace{}, api.ErrForm)
			continue
		}
		good++
		if e != api.OK || !isTrace(x) || textOf(x) != s {
			t.Errorf("Parse(%q): %+v, error %d", s, x, e)
		}
	}
	if good < 10000 {
		t.Errorf("only %d texts are well formed", good)
	}
}

// P7.6, P7.13
func TestWhole(t *testing.T) {
	for _, c := range several() {
		for i, d := range dates(c) {
			y := c.Years[d.Year]
			x, e := date.Whole(c, d)
			expect(t, fmt.Sprintf("Whole(%v, %v)", c, d), x, e, api.DateTrace{Day: d.Day, Month: d.Month, Second: d.Second, Name: y.Name, King: c.Kings[y.King]}, api.OK)
			expectError(t, fmt.Sprintf("CheckTrace(%v)", x), date.CheckTrace(x), api.OK)
			if i%7 == 0 {
				l, e := date.Spans(c, x)
				expect(t, fmt.Sprintf("Spans of Whole(%v, %v)", c, d), l, e, spans(span(i+1, i+1)), api.OK)
			}
		}
	}
}
