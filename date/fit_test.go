package date_test

import (
	"fmt"
	"slices"
	"testing"
	"time"

	"bulla/api"
	"bulla/date"
)

// fits reports whether a date fits a trace, as the chapter defines it.
func fits(c api.Calendar, t api.DateTrace, d api.Date) bool {
	dayFits := t.Day == 0 || t.Day == d.Day || t.More && d.Day > t.Day
	monthFits := t.Month == 0 || t.Month == d.Month && t.Second == d.Second
	before := d.Year - t.After
	nameFits := t.Name == "" || before >= 0 && c.Years[before].Name == t.Name
	kingFits := t.King == "" || c.Kings[c.Years[d.Year].King] == t.King
	return dayFits && monthFits && nameFits && kingFits
}

// fitting returns the numbers of the days that fit a trace.
func fitting(c api.Calendar, t api.DateTrace) []int {
	var l []int
	for i, d := range dates(c) {
		if fits(c, t, d) {
			l = append(l, i+1)
		}
	}
	return l
}

// spansOf returns the spans of increasing numbers.
func spansOf(days []int) []api.Span {
	var l []api.Span
	for i, n := range days {
		if i > 0 && days[i-1] == n-1 {
			l[len(l)-1].Last = n
		} else {
			l = append(l, span(n, n))
		}
	}
	return l
}

// P7.7
func TestFitsAndSpans(t *testing.T) {
	random, found := newRandom(), 0
	for _, c := range several() {
		for range 150 {
			x := randomTrace(random, c)
			want := spansOf(fitting(c, x))
			l, e := date.Spans(c, x)
			expect(t, fmt.Sprintf("Spans(%v, %+v)", c, x), l, e, want, api.OK)
			found += min(len(want), 1)
			for range 10 {
				d := randomDate(random, c)
				is, e := date.Fits(c, x, d)
				expect(t, fmt.Sprintf("Fits(%v, %+v, %v)", c, x, d), is, e, fits(c, x, d), api.OK)
			}
		}
	}
	if found < 1000 {
		t.Errorf("only %d traces fit any date", found)
	}
}

// P7.7: each date against traces of which one part is visible.
func TestFitsOfSingleParts(t *testing.T) {
	c := example()
	var l []api.DateTrace
	for n := 1; n <= 30; n++ {
		l = append(l, api.DateTrace{Day: n}, api.DateTrace{Day: n, More: true})
	}
	for n := 1; n <= 12; n++ {
		l = append(l, api.DateTrace{Month: n}, api.DateTrace{Month: n, Second: true})
	}
	for after := range 4 {
		for _, name := range names("wall", "canal", "ur", "a") {
			l = append(l, api.DateTrace{Name: name, After: after})
		}
	}
	l = append(l, api.DateTrace{}, api.DateTrace{King: "ur"}, api.DateTrace{King: "si"}, api.DateTrace{King: "wall"}, api.DateTrace{King: longest})
	for _, x := range l {
		for _, d := range dates(c) {
			is, e := date.Fits(c, x, d)
			expect(t, fmt.Sprintf("Fits(%+v, %v)", x, d), is, e, fits(c, x, d), api.OK)
		}
	}
}

// P7.7: a year after one of an earlier king fits, and the king is that of the later year.
func TestYearsAfterAnotherKing(t *testing.T) {
	c := example()
	for _, x := range []struct {
		s string
		l []api.Span
	}{
		{"-/-/+canal", spans(span(738, 1097))}, {"-/-/+canal@si", spans(span(738, 1097))}, {"-/-/+canal@ur", nil}, {"-/-/++wall", spans(span(738, 1097))}, {"-/-/+++wall", nil}, {"-/-/+wall@ur", spans(span(361, 737))}, {"-/-/wall@ur", spans(span(1, 360))},
		{"29+/1/-", spans(span(29, 30), span(389, 389), span(766, 767))}, {"-/-/+wall", spans(span(361, 737))}, {"30/-/canal", nil}, {"30+/-/canal", nil}, {"-/-/-", spans(span(1, 1097))}, {"-/-/wall@si", spans(span(738, 1097))}, {"1/6b/-", spans(span(535, 535))}, {"-/6/canal", spans(span(506, 534))}, {"-/6b/canal", spans(span(535, 563))}, {"-/6b/wall", nil},
		{"-/12/wall", spans(span(331, 360), span(1068, 1097))}, {"-/-/wall", spans(span(1, 360), span(738, 1097))}, {"-/-/-@ur", spans(span(1, 737))}, {"-/-/-@ea", nil}, {"-/-/ur", nil},
	} {
		l, e := date.Spans(c, trace(t, x.s))
		expect(t, fmt.Sprintf("Spans(c, %s)", x.s), l, e, x.l, api.OK)
	}
	is, e := date.Fits(c, trace(t, "2+/1/+canal@si"), day(2, 1, 2))
	expect(t, "Fits(c, 2+/1/+canal@si)", is, e, true, api.OK)
}

// P7.14
func TestLessVisibleFitsMore(t *testing.T) {
	random := newRandom()
	less := []func(*api.DateTrace){
		func(x *api.DateTrace) { x.Day, x.More = 0, false },
		func(x *api.DateTrace) {
			if x.Day > 1 {
				x.Day, x.More = 1+random.IntN(x.Day-1), true
			}
		},
		func(x *api.DateTrace) { x.Month, x.Second = 0, false },
		func(x *api.DateTrace) { x.Name, x.After = "", 0 },
		func(x *api.DateTrace) { x.King = "" },
	}
	for range 1000 {
		c := randomCalendar(random)
		d := randomDate(random, c)
		x, e := date.Whole(c, d)
		expectError(t, fmt.Sprintf("Whole(%v, %v)", c, d), e, api.OK)
		for range 5 {
			pick(random, less...)(&x)
			is, e := date.Fits(c, x, d)
			expect(t, fmt.Sprintf("Fits(%v, %+v, %v)", c, x, d), is, e, true, api.OK)
		}
	}
}

// inSeries returns for each trace the days that some assignment gives it.
func inSeries(c api.Calendar, l []api.DateTrace) [][]int {
	days := make([][]int, len(l))
	for i, x := range l {
		days[i] = fitting(c, x)
	}
	for i := 1; i < len(l); i++ {
		days[i] = slices.DeleteFunc(days[i], func(n int) bool { return !slices.ContainsFunc(days[i-1], func(m int) bool { return m <= n }) })
	}
	for i := len(l) - 2; i >= 0; i-- {
		days[i] = slices.DeleteFunc(days[i], func(n int) bool { return !slices.ContainsFunc(days[i+1], func(m int) bool { return n <= m }) })
	}
	return days
}

// P7.8, P7.15
func TestSeries(t *testing.T) {
	random, found := newRandom(), 0
	for range 4000 {
		c := randomCalendar(random)
		var l []api.DateTrace
		for range 1 + random.IntN(5) {
			l = append(l, randomTrace(random, c))
		}
		days := inSeries(c, l)
		var want []api.Span
		e := api.OK
		for _, x := range days {
			if len(x) == 0 {
				want, e = nil, api.ErrSeries
				break
			}
			want = append(want, span(x[0], x[len(x)-1]))
		}
		got, gotError := date.Series(c, l)
		expect(t, fmt.Sprintf("Series(%v, %+v)", c, l), got, gotError, want, e)
		if e != api.OK {
			continue
		}
		found++
		expectAssignments(t, c, l, got)
		for i, s := range got {
			within := slices.DeleteFunc(fitting(c, l[i]), func(n int) bool { return n < s.First || n > s.Last })
			expect(t, fmt.Sprintf("the days of the trace %d of Series(%v, %+v)", i, c, l), within, api.OK, days[i], api.OK)
		}
	}
	if found < 400 {
		t.Errorf("only %d series have assignments", found)
	}
}

// expectAssignments looks whether the first days of spans, and their last days, are assignments.
func expectAssignments(t *testing.T, c api.Calendar, l []api.DateTrace, got []api.Span) {
	t.Helper()
	all := dates(c)
	for i, s := range got {
		inOrder := i == 0 || got[i-1].First <= s.First && got[i-1].Last <= s.Last
		if !inOrder || !fits(c, l[i], all[s.First-1]) || !fits(c, l[i], all[s.Last-1]) {
			t.Errorf("the ends of Series(%v, %+v), %v, are no assignments", c, l, got)
		}
	}
}

// P7.15
func TestSeriesWithOneTraceMore(t *testing.T) {
	random, found := newRandom(), 0
	for range 2500 {
		c := randomCalendar(random)
		var l []api.DateTrace
		for range random.IntN(5) {
			l = append(l, randomTrace(random, c))
		}
		at := random.IntN(len(l) + 1)
		before, e := date.Series(c, l)
		after, more := date.Series(c, slices.Insert(slices.Clone(l), at, randomTrace(random, c)))
		if e != api.OK {
			expectError(t, "Series with one trace more", more, e)
			continue
		}
		if more != api.OK {
			continue
		}
		found++
		for i, s := range slices.Delete(after, at, at+1) {
			if s.First < before[i].First || s.Last > before[i].Last {
				t.Errorf("the span %v of Series(%v, %+v) becomes %v", before[i], c, l, s)
			}
		}
	}
	if found < 300 {
		t.Errorf("only %d series have assignments", found)
	}
}

// P7.8: the examples of the chapter, and series at the limits.
func TestSeriesByExample(t *testing.T) {
	c := example()
	for _, x := range []struct {
		l    []string
		want []api.Span
		e    api.Errno
	}{
		{names("-/12/wall", "-/-/canal", "1/1/-"), spans(span(331, 360), span(361, 737), span(361, 738)), api.OK},
		{names("-/-/canal", "-/-/wall@ur"), nil, api.ErrSeries}, {nil, nil, api.OK}, {names("-/-/-"), spans(span(1, 1097)), api.OK}, {names("30/-/canal"), nil, api.ErrSeries}, {names("-/-/-", "30/-/canal", "-/-/-"), nil, api.ErrSeries},
		{names("1/1/canal", "1/1/canal", "1/1/canal"), spans(span(361, 361), span(361, 361), span(361, 361)), api.OK}, {names("2/1/canal", "1/1/canal"), nil, api.ErrSeries}, {names("-/-/wall", "-/-/canal", "-/-/wall"), spans(span(1, 360), span(361, 737), span(738, 1097)), api.OK}, {names("-/-/wall", "-/-/canal", "-/-/wall", "-/-/canal"), nil, api.ErrSeries},
		{names("-/-/-", "5/6b/-", "-/-/-"), spans(span(1, 539), span(539, 539), span(539, 1097)), api.OK}, {names("-/12/wall", "-/1/-"), spans(span(331, 360), span(361, 767)), api.OK},
	} {
		got, e := date.Series(c, traces(t, x.l...))
		expect(t, fmt.Sprintf("Series(c, %v)", x.l), got, e, x.want, x.e)
	}
}

// P7.8
func TestSeriesLimits(t *testing.T) {
	c := example()
	got, e := date.Series(c, make([]api.DateTrace, 64))
	expect(t, "Series of 64 traces", got, e, slices.Repeat(spans(span(1, 1097)), 64), api.OK)
	for _, x := range []api.DateTrace{{}, {Day: 31}, {Name: "b"}} {
		got, e = date.Series(c, slices.Repeat([]api.DateTrace{x}, 65))
		expect(t, fmt.Sprintf("Series of 65 traces %+v", x), got, e, nil, api.ErrLimit)
	}
	got, e = date.Series(c, []api.DateTrace{{Name: "b"}, {}, {Day: 31}})
	expect(t, "Series that has no assignment, with an invalid trace", got, e, nil, api.ErrTrace)
}

// P7.7, P7.8: the most spans and traces take little time.
func TestLargestSeries(t *testing.T) {
	c, start := largest(), time.Now()
	l, e := date.Spans(c, api.DateTrace{Day: 30, More: true})
	if e != api.OK || len(l) != 5200 || l[0] != span(30, 30) || l[5199] != span(156000, 156000) {
		t.Errorf("Spans of the last days of all months: %d, error %d", len(l), e)
	}
	var series []api.DateTrace
	for i := range api.MaxSeries {
		series = append(series, api.DateTrace{Day: 30 - i%30}) // each one is in another month, but the 30th day that follows a first one
	}
	got, e := date.Series(c, series)
	if e != api.OK || got[0] != span(30, 30*5139) || got[63] != span(30*61+27, 30*5199+27) {
		t.Errorf("Series: %v, error %d", got, e)
	}
	if took := time.Since(start); took > 10*time.Second {
		t.Errorf("the calls took %v", took)
	}
}
