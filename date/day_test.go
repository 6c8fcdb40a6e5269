package date_test

import (
	"fmt"
	"testing"
	"time"

	"bulla/api"
	"bulla/date"
)

// P7.3, P7.11, P7.12
func TestNumberAndAt(t *testing.T) {
	for _, c := range several() {
		all := dates(c)
		for i, d := range all {
			n, e := date.Number(c, d)
			expect(t, fmt.Sprintf("Number(%v, %v)", c, d), n, e, i+1, api.OK)
			got, e := date.At(c, i+1)
			expect(t, fmt.Sprintf("At(%v, %d)", c, i+1), got, e, d, api.OK)
		}
		for _, n := range []int{0, -1, len(all) + 1, mostInt, leastInt, mostInt - 29, leastInt + 29} {
			got, e := date.At(c, n)
			expect(t, fmt.Sprintf("At(%v, %d)", c, n), got, e, api.Date{}, api.ErrRange)
		}
	}
}

// P7.3
func TestAdd(t *testing.T) {
	random := newRandom()
	for _, c := range several() {
		all := dates(c)
		for range 200 {
			i, j := random.IntN(len(all)), random.IntN(len(all))
			got, e := date.Add(c, all[i], j-i)
			expect(t, fmt.Sprintf("Add(%v, %v, %d)", c, all[i], j-i), got, e, all[j], api.OK)
		}
		for _, i := range []int{0, 1, len(all) / 2, len(all) - 1} {
			for _, days := range []int{-i, len(all) - 1 - i} {
				got, e := date.Add(c, all[i], days)
				expect(t, fmt.Sprintf("Add(%v, %v, %d)", c, all[i], days), got, e, all[i+days], api.OK)
			}
			for _, days := range []int{-i - 1, len(all) - i, mostInt, leastInt, mostInt - i, mostInt - i - 1, leastInt + len(all)} {
				got, e := date.Add(c, all[i], days)
				expect(t, fmt.Sprintf("Add(%v, %v, %d)", c, all[i], days), got, e, api.Date{}, api.ErrRange)
			}
		}
	}
}

// P7.3, P7.4: the number of a month is the place of its first day among all first days.
func TestBetweenAndScheme(t *testing.T) {
	random := newRandom()
	for _, c := range several() {
		all := dates(c)
		var monthOf []int
		months := 0
		for _, d := range all {
			if d.Day == 1 {
				months++
			}
			monthOf = append(monthOf, months)
		}
		for range 500 {
			i, j := random.IntN(len(all)), random.IntN(len(all))
			n, e := date.Between(c, all[i], all[j])
			expect(t, fmt.Sprintf("Between(%v, %v, %v)", c, all[i], all[j]), n, e, j-i, api.OK)
			n, e = date.Scheme(c, all[i], all[j])
			expect(t, fmt.Sprintf("Scheme(%v, %v, %v)", c, all[i], all[j]), n, e, 30*(monthOf[j]-monthOf[i])+all[j].Day-all[i].Day, api.OK)
		}
	}
}

// must returns a result, of a call that has no error.
func must(t *testing.T) func(n int, e api.Errno) int {
	return func(n int, e api.Errno) int {
		t.Helper()
		expectError(t, "a call", e, api.OK)
		return n
	}
}

// P7.11
func TestSumsOfDays(t *testing.T) {
	random, of := newRandom(), must(t)
	for _, c := range several() {
		for range 100 {
			x, y, z := randomDate(random, c), randomDate(random, c), randomDate(random, c)
			if of(date.Between(c, x, y))+of(date.Between(c, y, z)) != of(date.Between(c, x, z)) {
				t.Errorf("Between of %v, %v, %v in %v does not add up", x, y, z, c)
			}
			if of(date.Scheme(c, x, y))+of(date.Scheme(c, y, z)) != of(date.Scheme(c, x, z)) {
				t.Errorf("Scheme of %v, %v, %v in %v does not add up", x, y, z, c)
			}
			added, e := date.Add(c, x, of(date.Between(c, x, y)))
			expect(t, fmt.Sprintf("Add of Between(%v, %v, %v)", c, x, y), added, e, y, api.OK)
		}
	}
}

// The examples of the chapter, and of the document's overview: P7.3, P7.4.
func TestDaysByExample(t *testing.T) {
	c := example()
	n, e := date.Number(c, daySecond(1, 6, 1))
	expect(t, "Number(c, 1/6b/1)", n, e, 535, api.OK)
	for _, x := range []struct {
		n int
		d api.Date
		e api.Errno
	}{{1, day(0, 1, 1), api.OK}, {361, day(1, 1, 1), api.OK}, {534, day(1, 6, 29), api.OK}, {535, daySecond(1, 6, 1), api.OK}, {564, day(1, 7, 1), api.OK}, {1097, day(2, 12, 30), api.OK}, {1098, api.Date{}, api.ErrRange}, {0, api.Date{}, api.ErrRange}} {
		d, e := date.At(c, x.n)
		expect(t, fmt.Sprintf("At(c, %d)", x.n), d, e, x.d, x.e)
	}
	a, b := day(0, 12, 30), day(1, 2, 1)
	n, e = date.Scheme(c, a, b)
	expect(t, "Scheme", n, e, 31, api.OK)
	n, e = date.Scheme(c, b, a)
	expect(t, "Scheme", n, e, -31, api.OK)
	n, e = date.Between(c, a, b)
	expect(t, "Between", n, e, 30, api.OK)
	n, e = date.Between(c, b, a)
	expect(t, "Between", n, e, -30, api.OK)
	n, e = date.Scheme(c, day(1, 6, 1), day(1, 7, 1))
	expect(t, "Scheme over a doubled month", n, e, 60, api.OK)
}

// P7.3: the greatest calendar, in which each call takes little time.
func TestLargestCalendar(t *testing.T) {
	c, start := largest(), time.Now()
	all := dates(c)
	if len(all) != 156000 {
		t.Fatalf("the greatest calendar has %d days", len(all))
	}
	for i := 0; i < len(all); i += 311 {
		n, e := date.Number(c, all[i])
		expect(t, fmt.Sprintf("Number(%v)", all[i]), n, e, i+1, api.OK)
		d, e := date.At(c, i+1)
		expect(t, fmt.Sprintf("At(%d)", i+1), d, e, all[i], api.OK)
	}
	n, e := date.Scheme(c, all[0], all[len(all)-1])
	expect(t, "Scheme", n, e, 400*390-1, api.OK)
	n, e = date.Between(c, all[len(all)-1], all[0])
	expect(t, "Between", n, e, 1-400*390, api.OK)
	if took := time.Since(start); took > 10*time.Second {
		t.Errorf("1000 calls took %v", took)
	}
}
