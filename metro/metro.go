// Package metro provides exact ratios, ladders of units, and conversions between ladders: see shared/doc/01-metro.md.
package metro

import "bulla/api"

// IsName reports whether s is a name.
func IsName(s string) bool {
	if len(s) == 0 || len(s) > api.MaxWord || !isLetter(s[0]) {
		return false
	}
	for i := range len(s) {
		if !isLetter(s[i]) && !isDigit(s[i]) && s[i] != '_' {
			return false
		}
	}
	return true
}

func isLetter(c byte) bool { return 'a' <= c && c <= 'z' }

func isDigit(c byte) bool { return '0' <= c && c <= '9' }

// first returns the first error of several checks, which are given in the order in which the document names them.
func first(checks ...api.Errno) api.Errno {
	for _, e := range checks {
		if e != api.OK {
			return e
		}
	}
	return api.OK
}

// unless returns e unless ok is true.
func unless(ok bool, e api.Errno) api.Errno {
	if ok {
		return api.OK
	}
	return e
}

// inRange returns ErrRange unless n can be a number of smallest units.
func inRange(n int) api.Errno {
	return unless(0 <= n && n <= api.MaxNum, api.ErrRange)
}
