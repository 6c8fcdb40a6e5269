package tablet

import (
	"cmp"
	"slices"

	"bulla/api"
)

// tabletOf returns a tablet of copies of cases.
func tabletOf(name string, cases []api.Case) api.Tablet {
	t := api.Tablet{Name: name}
	for _, c := range cases {
		c.Amount = api.Numeral{Plus: slices.Clone(c.Amount.Plus), Less: slices.Clone(c.Amount.Less)}
		c.Words = slices.Clone(c.Words)
		t.Cases = append(t.Cases, c)
	}
	return t
}

// Legible returns a tablet without restorations.
func Legible(t api.Tablet) (api.Tablet, api.Errno) {
	if e := Check(t); e != api.OK {
		return api.Tablet{}, e
	}
	legible := tabletOf(t.Name, t.Cases)
	for spot, w := range words(t) {
		if w.State == api.WordRestored {
			legible.Cases[spot.Case].Words[spot.Word] = api.Word{State: api.WordLost}
		}
	}
	return legible, api.OK
}

// Renumber numbers columns and cases consecutively.
func Renumber(t api.Tablet) (api.Tablet, api.Errno) {
	if e := Check(t); e != api.OK {
		return api.Tablet{}, e
	}
	numbered := tabletOf(t.Name, t.Cases)
	column, line := 0, 0
	for i := range numbered.Cases {
		if startsFace(t.Cases, i) {
			column = 0
		}
		if startsColumn(t.Cases, i) {
			column, line = column+1, 0
		}
		line++
		numbered.Cases[i].Column, numbered.Cases[i].Line = column, line
	}
	return numbered, api.OK
}

// Cut divides a tablet after its first n cases.
func Cut(t api.Tablet, n int) (a, b api.Tablet, e api.Errno) {
	if e := Check(t); e != api.OK {
		return api.Tablet{}, api.Tablet{}, e
	}
	if n < 0 || n > len(t.Cases) {
		return api.Tablet{}, api.Tablet{}, api.ErrRange
	}
	return tabletOf(t.Name, t.Cases[:n]), tabletOf(t.Name, t.Cases[n:]), api.OK
}

// Append puts two tablets together.
func Append(a, b api.Tablet) (api.Tablet, api.Errno) {
	if e := cmp.Or(Check(a), Check(b)); e != api.OK {
		return api.Tablet{}, e
	}
	if len(a.Cases)+len(b.Cases) > api.MaxCases {
		return api.Tablet{}, api.ErrLimit
	}
	if len(a.Cases) > 0 && len(b.Cases) > 0 && comparePlaces(a.Cases[len(a.Cases)-1], b.Cases[0]) >= 0 {
		return api.Tablet{}, api.ErrSequence
	}
	return tabletOf(a.Name, slices.Concat(a.Cases, b.Cases)), api.OK
}
