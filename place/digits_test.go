package place_test

import (
	"fmt"
	"math/big"
	"strings"
	"testing"

	"bulla/api"
	"bulla/place"
)

// valid returns digits that are valid, with their texts.
func valid() map[string][]int {
	return map[string][]int{
		"0": nil, "1": d(1), "9": d(9), "10": d(10), "59": d(59), "1:0:30": d(1, 0, 30), "1:0:0:0:1": d(1, 0, 0, 0, 1), "10:59:1": d(10, 59, 1),
		strings.TrimSuffix(strings.Repeat("59:", 16), ":"): repeated(16, 59),
		"1:" + strings.Repeat("0:", 14) + "1":              append(append(d(1), repeated(14, 0)...), 1),
	}
}

// P3.1
func TestCheck(t *testing.T) {
	for _, a := range valid() {
		expect(t, fmt.Sprint("Check", a), 0, place.Check(a), 0, api.OK)
	}
	expect(t, "Check of an empty list", 0, place.Check([]int{}), 0, api.OK)
	forInvalid(func(a []int, want api.Errno) {
		expect(t, fmt.Sprint("Check", a), 0, place.Check(a), 0, want)
	})
}

// P3.1
func TestText(t *testing.T) {
	for want, a := range valid() {
		s, e := place.Text(a)
		expect(t, fmt.Sprint("Text", a), s, e, want, api.OK)
	}
	forInvalid(func(a []int, want api.Errno) {
		s, e := place.Text(a)
		expect(t, fmt.Sprint("Text", a), s, e, "", want)
	})
}

func expectParsed(t *testing.T, s string, want []int, wantAt int, wantError api.Errno) {
	t.Helper()
	a, at, e := place.Parse(s)
	expectDigits(t, fmt.Sprintf("Parse(%q)", s), a, e, want, wantError)
	expect(t, fmt.Sprintf("offset of Parse(%q)", s), at, e, wantAt, wantError)
}

// P3.2
func TestParse(t *testing.T) {
	for s, want := range valid() {
		expectParsed(t, s, want, 0, api.OK)
	}
	full := strings.Repeat("10:", 16) // it ends with the offset 48
	for _, x := range []struct {
		s  string
		at int
		e  api.Errno
	}{
		{"0:1", 0, api.ErrForm}, {"1:60", 2, api.ErrDigit}, {"1:05", 2, api.ErrForm}, {"1:0", 2, api.ErrForm}, {"1::2", 2, api.ErrForm},
		{"", 0, api.ErrForm}, {":", 0, api.ErrForm}, {"1:", 2, api.ErrForm}, {":1", 0, api.ErrForm}, {"00", 0, api.ErrForm}, {"0:", 0, api.ErrForm}, {"0:0", 0, api.ErrForm}, {"0:60", 0, api.ErrForm}, {"1:0:0", 4, api.ErrForm}, {"59:0:", 5, api.ErrForm},
		{"99", 0, api.ErrDigit}, {"60:0", 0, api.ErrDigit}, {"100", 0, api.ErrForm}, {"060", 0, api.ErrForm}, {"1:000", 2, api.ErrForm}, {"12:34:56:78:90", 9, api.ErrDigit},
		{"a", 0, api.ErrForm}, {"1a", 0, api.ErrForm}, {"+1", 0, api.ErrForm}, {"-1", 0, api.ErrForm}, {"-0", 0, api.ErrForm}, {" 1", 0, api.ErrForm}, {"1 ", 0, api.ErrForm}, {"0 ", 0, api.ErrForm}, {"1.5", 0, api.ErrForm}, {"_1", 0, api.ErrForm}, {"1;2", 0, api.ErrForm}, {"1:2\n", 2, api.ErrForm}, {"\x00", 0, api.ErrForm}, {"1:\xff", 2, api.ErrForm}, {"१", 0, api.ErrForm}, {"1:１", 2, api.ErrForm},
		{full + "1", 48, api.ErrLimit}, {full + "0", 48, api.ErrLimit}, {full, 48, api.ErrForm}, {full + "x", 48, api.ErrForm}, {full + "07", 48, api.ErrForm}, {full + "60", 48, api.ErrDigit}, {full + "1:x", 48, api.ErrLimit}, {strings.Repeat("10:", 15) + "0", 45, api.ErrForm}, {"0:" + full, 0, api.ErrForm},
		{strings.Repeat("1", 1<<16), 0, api.ErrForm}, {strings.Repeat("1:", 1<<16), 32, api.ErrLimit}, {strings.Repeat(":", 1<<16), 0, api.ErrForm},
	} {
		expectParsed(t, x.s, nil, x.at, x.e)
	}
}

// defined returns what Parse has to return, by the definition.
func defined(s string) (a []int, at int, e api.Errno) {
	if s == "0" {
		return nil, 0, api.OK
	}
	parts := strings.Split(s, ":")
	for i, part := range parts {
		digit := -1
		for n := range 100 {
			if fmt.Sprint(n) == part {
				digit = n
			}
		}
		switch {
		case digit < 0:
			return nil, at, api.ErrForm
		case digit > 59:
			return nil, at, api.ErrDigit
		case i >= 16:
			return nil, at, api.ErrLimit
		case digit == 0 && (i == 0 || i == len(parts)-1):
			return nil, at, api.ErrForm
		}
		a = append(a, digit)
		at += len(part) + 1
	}
	return a, 0, api.OK
}

// P3.2: all texts of up to five of some bytes.
func TestParseOfAllShortTexts(t *testing.T) {
	texts := []string{""}
	for i := 0; len(texts[i]) < 5; i++ {
		for _, c := range "0156:-+" {
			texts = append(texts, texts[i]+string(c))
		}
	}
	for _, s := range texts {
		want, at, e := defined(s)
		expectParsed(t, s, want, at, e)
	}
}

// P3.3
func TestOf(t *testing.T) {
	for n, want := range map[int][]int{0: nil, 1: d(1), 59: d(59), 60: d(1), 61: d(1, 1), 120: d(2), 3600: d(1), 3601: d(1, 0, 1), 4000: d(1, 6, 40), 7200: d(2), 46656000000: d(1)} {
		a, e := place.Of(n)
		expectDigits(t, fmt.Sprintf("Of(%d)", n), a, e, want, api.OK)
	}
	most, _ := digitsOf(power(2, 40))
	a, e := place.Of(1 << 40)
	expectDigits(t, "Of(2^40)", a, e, most, api.OK)
	for _, n := range []int{-1, leastInt, 1<<40 + 1, mostInt} {
		a, e := place.Of(n)
		expectDigits(t, fmt.Sprintf("Of(%d)", n), a, e, nil, api.ErrRange)
	}
	random := newRandom()
	for i := range 10000 {
		n := []int{i, 1<<40 - i, random.IntN(1<<40 + 1), random.IntN(1<<30) * 60}[i%4]
		if n <= 1<<40 {
			want, _ := digitsOf(whole(n))
			a, e := place.Of(n)
			expectDigits(t, fmt.Sprintf("Of(%d)", n), a, e, want, api.OK)
		}
	}
}

// P3.3
func TestWhole(t *testing.T) {
	most, _ := digitsOf(power(2, 40))
	more, _ := digitsOf(new(big.Int).Add(power(2, 40), whole(1)))
	for _, x := range []struct {
		a    []int
		want int
		e    api.Errno
	}{
		{nil, 0, api.OK}, {d(1), 1, api.OK}, {d(59), 59, api.OK}, {d(1, 1), 61, api.OK}, {d(1, 6, 40), 4000, api.OK}, {d(1, 0, 0, 0, 0, 0, 1), 46656000001, api.OK},
		{most, 1 << 40, api.OK}, {more, 0, api.ErrBig}, {repeated(7, 59), 0, api.ErrBig}, {d(1, 0, 0, 0, 0, 0, 0, 1), 0, api.ErrBig}, {repeated(16, 59), 0, api.ErrBig},
	} {
		n, e := place.Whole(x.a)
		expect(t, fmt.Sprint("Whole", x.a), n, e, x.want, x.e)
	}
	forInvalid(func(a []int, want api.Errno) {
		n, e := place.Whole(a)
		expect(t, fmt.Sprint("Whole", a), n, e, 0, want)
	})
}

// P3.3: Whole returns what the digits are the digits of.
func TestWholeOfSomeDigits(t *testing.T) {
	random := newRandom()
	for range 10000 {
		a := someDigits(random, 8)
		want, wantError := 0, api.ErrBig
		if x := wholeOf(a); x.Cmp(power(2, 40)) <= 0 {
			want, wantError = int(x.Int64()), api.OK
		}
		n, e := place.Whole(a)
		expect(t, fmt.Sprint("Whole", a), n, e, want, wantError)
	}
}

// P3.14: the text of valid digits is parsed as these digits.
func TestTextsAreParsed(t *testing.T) {
	random := newRandom()
	for range 10000 {
		a := someDigits(random, 16)
		s, e := place.Text(a)
		expect(t, fmt.Sprint("Text", a), 0, e, 0, api.OK)
		expectParsed(t, s, a, 0, api.OK)
	}
}
