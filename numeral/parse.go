package numeral

import (
	"slices"
	"strconv"
	"strings"

	"bulla/api"
	"bulla/metro"
)

// cursor stands at a token of a text; there is one token more than blanks, so that tokens may be empty.
type cursor struct {
	text    string
	at, end int // offsets of the first byte of the token and of the byte after its last one
}

// newCursor returns a cursor at the first token.
func newCursor(text string) cursor {
	return cursor{text: text, end: tokenEnd(text, 0)}
}

// tokenEnd returns the offset after the token that starts at an offset.
func tokenEnd(text string, at int) int {
	if length := strings.IndexByte(text[at:], ' '); length >= 0 {
		return at + length
	}
	return len(text)
}

func (c *cursor) token() string { return c.text[c.at:c.end] }

func (c *cursor) isFirst() bool { return c.at == 0 }

func (c *cursor) isLast() bool { return c.end == len(c.text) }

// advance goes to the next token; there must be one.
func (c *cursor) advance() {
	c.at = c.end + 1
	c.end = tokenEnd(c.text, c.at)
}

// parser has read the tokens before that of its cursor: their groups that belong to the list of this token, and, if this list is Less, those of Plus.
type parser struct {
	cursor
	groups []api.Group
	inLess bool
	plus   []api.Group
}

// Parse parses the text of a numeral.
func Parse(s string) (n api.Numeral, at int, e api.Errno) {
	p := parser{cursor: newCursor(s)}
	e = p.take()
	for e == api.OK && !p.isLast() {
		p.advance()
		e = p.take()
	}
	if e != api.OK {
		return api.Numeral{}, p.at, e
	}
	return p.numeral(), 0, api.OK
}

// take examines the token, and keeps what it says.
func (p *parser) take() api.Errno {
	g, ok := parseGroup(p.token())
	switch {
	case p.token() == lessToken:
		return p.startLess()
	case !ok:
		return api.ErrForm
	case len(p.groups) == api.MaxGroups:
		return api.ErrLimit
	case isDamaged(g):
		if p.inLess {
			return api.ErrDamage
		}
		fallthrough
	default:
		e := checkAfter(p.groups, g)
		p.groups = append(p.groups, g)
		return e
	}
}

// startLess ends Plus, so that the groups that follow belong to Less.
func (p *parser) startLess() api.Errno {
	if p.isFirst() || p.isLast() || p.inLess {
		return api.ErrForm
	}
	if slices.ContainsFunc(p.groups, isDamaged) {
		return api.ErrDamage
	}
	p.plus, p.groups, p.inLess = p.groups, nil, true
	return api.OK
}

// numeral returns what was read.
func (p *parser) numeral() api.Numeral {
	if p.inLess {
		return api.Numeral{Plus: p.plus, Less: p.groups}
	}
	return api.Numeral{Plus: p.groups}
}

// parseGroup returns the group of a token, or false if it is not the token of a group.
func parseGroup(token string) (api.Group, bool) {
	if token == gapToken {
		return api.Group{}, true
	}
	digits, sign, _ := strings.Cut(token, "(")
	digits, more := strings.CutSuffix(digits, "+")
	sign = strings.TrimSuffix(sign, ")")
	count, err := strconv.Atoi(digits)
	if err != nil || count < 1 || count > api.MaxCount || !metro.IsName(sign) {
		return api.Group{}, false
	}
	g := api.Group{Count: count, Sign: sign, More: more}
	// What was cut off leniently above (a leading zero, a missing parenthesis) shows here.
	return g, groupToken(g) == token
}
