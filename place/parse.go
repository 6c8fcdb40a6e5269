package place

import (
	"strconv"
	"strings"

	"bulla/api"
)

// fault is thrown by a panic where a part has an error: a part of a text (at is its offset), or a row of a table.
type fault struct {
	e  api.Errno
	at int
}

// attempt calls f, and returns the fault that it throws, or the zero fault.
func attempt(f func()) (thrown fault) {
	defer func() {
		if x, ok := recover().(fault); ok {
			thrown = x
		}
	}()
	f()
	return fault{}
}

// Parse parses the text of digits.
func Parse(s string) (a []int, at int, e api.Errno) {
	if s == "0" {
		return nil, 0, api.OK
	}
	thrown := attempt(func() { a = parseParts(s) })
	return a, thrown.at, thrown.e
}

// parseParts returns the digits of the parts of a text, or throws the first fault.
func parseParts(s string) []int {
	var a []int
	at := 0
	for more := true; more; {
		var part string
		part, _, more = strings.Cut(s[at:], ":")
		d, e := parsePart(part)
		switch {
		case e != api.OK:
			panic(fault{e, at})
		case len(a) == api.MaxDigits:
			panic(fault{api.ErrLimit, at})
		case d == 0 && (len(a) == 0 || !more):
			panic(fault{api.ErrForm, at})
		}
		a = append(a, d)
		at += len(part) + len(":")
	}
	return a
}

// parsePart returns the digit of a part.
func parsePart(part string) (int, api.Errno) {
	if len(part) > 2 {
		return 0, api.ErrForm
	}
	d, err := strconv.Atoi(part)
	if err != nil || d < 0 || strconv.Itoa(d) != part { // Atoi also takes signs and leading zeros
		return 0, api.ErrForm
	}
	if d >= api.Base {
		return 0, api.ErrDigit
	}
	return d, api.OK
}
