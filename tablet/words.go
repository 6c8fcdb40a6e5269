package tablet

import (
	"cmp"
	"slices"

	"bulla/api"
	"bulla/metro"
)

// anyName is the first of all names.
const anyName = "a"

func isLegible(w api.Word) bool {
	return w.State == api.WordIntact || w.State == api.WordDamaged
}

// Fits reports whether names fit words.
func Fits(w []api.Word, l []string) (bool, api.Errno) {
	if e := checkNames(w, l); e != api.OK {
		return false, e
	}
	return fitting(w, l)[0][0], api.OK
}

// checkNames returns the error of words, and of names that are compared with them.
func checkNames(w []api.Word, l []string) api.Errno {
	if e := CheckWords(w); e != api.OK {
		return e
	}
	if len(l) > api.MaxNames {
		return api.ErrLimit
	}
	for _, name := range l {
		if !metro.IsName(name) {
			return api.ErrArg
		}
	}
	return api.OK
}

// fits says, for each word and for the end, which of the ends of a list of names fit the words from there on: those from the name with the second index on.
type fits [api.MaxWords + 1][api.MaxNames + 1]bool

func fitting(w []api.Word, l []string) fits {
	var f fits
	f[len(w)][len(l)] = true
	for i, x := range slices.Backward(w) {
		if isGap(x) {
			f[i][len(l)] = f[i+1][len(l)]
		}
		for j, name := range slices.Backward(l) {
			if isGap(x) {
				f[i][j] = f[i+1][j] || f[i][j+1]
			} else {
				f[i][j] = f[i+1][j+1] && (!isLegible(x) || x.Text == name)
			}
		}
	}
	return f
}

// Restore puts names into the places that are not legible.
func Restore(w []api.Word, l []string) ([]api.Word, api.Errno) {
	if e := checkNames(w, l); e != api.OK {
		return nil, e
	}
	f := fitting(w, l)
	if !f[0][0] {
		return nil, api.ErrNone
	}
	if len(l) > api.MaxWords {
		return nil, api.ErrLimit
	}
	var restored []api.Word
	i := 0
	for j, name := range l {
		if isGap(w[i]) && f[i+1][j] { // the gap has as many names as it needs, and no other gap follows it
			i++
		}
		x := w[i]
		if !isLegible(x) {
			x = api.Word{Text: name, State: api.WordRestored}
		}
		restored = append(restored, x)
		i = past(w, i)
	}
	return restored, api.OK
}

// past returns the index of the word that may receive a name after the word i has received one.
func past(w []api.Word, i int) int {
	if isGap(w[i]) {
		return i
	}
	return i + 1
}

// Agree reports whether some names fit two lists of words.
func Agree(a, b []api.Word) (bool, api.Errno) {
	if e := cmp.Or(CheckWords(a), CheckWords(b)); e != api.OK {
		return false, e
	}
	return firstShared(a, b).exists, api.OK
}

// Common returns the first of the shortest lists of names that fit two lists of words.
func Common(a, b []api.Word) ([]string, api.Errno) {
	if e := cmp.Or(CheckWords(a), CheckWords(b)); e != api.OK {
		return nil, e
	}
	first := firstShared(a, b)
	if !first.exists {
		return nil, api.ErrNone
	}
	return first.names, api.OK
}

// shared is a list of names that fits two lists of words, if there is one.
type shared struct {
	exists bool
	names  []string
}

// or returns s, or t if that exists and is shorter than s, or as long and before it.
func (s shared) or(t shared) shared {
	if !t.exists || s.exists && cmp.Or(cmp.Compare(len(s.names), len(t.names)), slices.Compare(s.names, t.names)) <= 0 {
		return s
	}
	return t
}

// after returns the names with one more before them.
func (s shared) after(name string) shared {
	return shared{exists: s.exists, names: slices.Concat([]string{name}, s.names)}
}

// firstShared returns the first of the shortest lists that fit both, from those for all ends of a and of b.
func firstShared(a, b []api.Word) shared {
	var best [api.MaxWords + 1][api.MaxWords + 1]shared
	best[len(a)][len(b)].exists = true
	for i := len(a); i >= 0; i-- {
		for j := len(b); j >= 0; j-- {
			s := best[i][j]
			if i < len(a) && isGap(a[i]) {
				s = s.or(best[i+1][j])
			}
			if j < len(b) && isGap(b[j]) {
				s = s.or(best[i][j+1])
			}
			if i < len(a) && j < len(b) {
				if name, ok := nameFor(a[i], b[j]); ok {
					// Between two gaps this finds nothing: a name that both receive is one too many.
					s = s.or(best[past(a, i)][past(b, j)].after(name))
				}
			}
			best[i][j] = s
		}
	}
	return best[0][0]
}

// nameFor returns the first name that two words can both receive, or false if there is none.
func nameFor(x, y api.Word) (string, bool) {
	switch {
	case isLegible(x) && isLegible(y):
		return x.Text, x.Text == y.Text
	case isLegible(x):
		return x.Text, true
	case isLegible(y):
		return y.Text, true
	}
	return anyName, true
}
