package date

import (
	"bytes"
	"strconv"
	"strings"

	"bulla/api"
	"bulla/metro"
)

// The characters of the text of a trace.
const (
	separator  = "/"
	nothing    = "-"
	plus       = "+"
	secondMark = "b"
	kingMark   = "@"
)

const (
	maxDay   = 30
	maxTrace = len("30+/12b/+++@") + 2*api.MaxWord // the octets of the longest text of a trace
)

// CheckTrace checks a trace.
func CheckTrace(t api.DateTrace) api.Errno {
	dayValid := 0 <= t.Day && t.Day <= maxDay && (t.Day > 0 || !t.More)
	monthValid := 0 <= t.Month && t.Month <= lastMonth && (t.Month > 0 || !t.Second)
	yearValid := isNameOrEmpty(t.Name) && 0 <= t.After && t.After <= api.MaxAfter && (t.Name != "" || t.After == 0) && isNameOrEmpty(t.King)
	if !dayValid || !monthValid || !yearValid {
		return api.ErrTrace
	}
	return api.OK
}

func isNameOrEmpty(s string) bool { return s == "" || metro.IsName(s) }

// Text returns the text of a trace.
func Text(t api.DateTrace) (string, api.Errno) {
	if e := CheckTrace(t); e != api.OK {
		return "", e
	}
	day, month, year := nothing, nothing, nothing
	if t.Day > 0 {
		day = strconv.Itoa(t.Day) + markIf(t.More, plus)
	}
	if t.Month > 0 {
		month = strconv.Itoa(t.Month) + markIf(t.Second, secondMark)
	}
	if t.Name != "" {
		year = strings.Repeat(plus, t.After) + t.Name
	}
	if t.King != "" {
		year += kingMark + t.King
	}
	return day + separator + month + separator + year, api.OK
}

func markIf(is bool, mark string) string {
	if is {
		return mark
	}
	return ""
}

// Parse parses the text of a trace.
func Parse(s string) (api.DateTrace, api.Errno) {
	if len(s) > maxTrace {
		return api.DateTrace{}, api.ErrForm
	}
	t := read([]byte(s))
	// A malformed text is read as a trace too, but then that one is not valid, or has another text.
	if text, e := Text(t); e != api.OK || text != s {
		return api.DateTrace{}, api.ErrForm
	}
	return t, api.OK
}

// read returns the trace of which the text is s, if there is one.
func read(s []byte) api.DateTrace {
	var t api.DateTrace
	day, rest := cut(s, separator)
	month, year := cut(rest, separator)
	name, king := cut(year, kingMark)
	day, t.More = bytes.CutSuffix(day, []byte(plus))
	month, t.Second = bytes.CutSuffix(month, []byte(secondMark))
	t.Day, t.Month = number(day), number(month)
	if string(name) != nothing {
		t.Name = strings.TrimLeft(string(name), plus)
		t.After = len(name) - len(t.Name)
	}
	t.King = string(king)
	return t
}

// cut returns the parts of s before and after the first mark; all of s is before it if there is none. No part can be extended into the one that follows.
func cut(s []byte, mark string) (before, after []byte) {
	i := bytes.Index(s, []byte(mark))
	if i < 0 {
		return s, nil
	}
	return s[:i:i], s[i+len(mark):]
}

// number returns the number that a part of a text says, or 0 if it says none.
func number(part []byte) int {
	n, err := strconv.Atoi(string(part))
	if err != nil {
		return 0
	}
	return n
}

// Whole returns the trace of a date of which everything is visible.
func Whole(c api.Calendar, d api.Date) (api.DateTrace, api.Errno) {
	if _, e := locate(c, d); e != api.OK {
		return api.DateTrace{}, e
	}
	return api.DateTrace{Day: d.Day, Month: d.Month, Second: d.Second, Name: c.Years[d.Year].Name, King: kingOf(c, d.Year)}, api.OK
}
