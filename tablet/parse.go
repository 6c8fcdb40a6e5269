package tablet

import (
	"iter"
	"slices"
	"strconv"
	"strings"

	"bulla/api"
	"bulla/metro"
	"bulla/numeral"
)

// maxDigits is how many digits a number in a text may have.
const maxDigits = 4

// notSet is the face or the column of a parser that no line has set. (A line may set the column 0, which no case can have.)
const notSet = -1

// parser has read the lines before that with the number line: their tablet, and the face and the column of the cases that follow.
type parser struct {
	api.Tablet
	line         int
	face, column int
	ended        bool
	readers      map[string]func(tokens []string) // by the first token; all other lines are case lines
}

func newParser() *parser {
	p := &parser{face: notSet, column: notSet}
	p.readers = map[string]func([]string){faceToken: p.readFace, columnToken: p.readColumn, endToken: p.readEnd}
	return p
}

// Parse parses the text of a tablet; line is the number of a line with an error.
func Parse(s string) (t api.Tablet, line int, e api.Errno) {
	if len(s) > api.MaxText {
		return api.Tablet{}, 0, api.ErrLimit
	}
	p := newParser()
	if e := p.readLines(s); e != api.OK {
		return api.Tablet{}, p.line, e
	}
	switch {
	case !p.started():
		return api.Tablet{}, 0, api.ErrHead
	case !p.ended:
		return api.Tablet{}, 0, api.ErrForm
	}
	return p.Tablet, 0, api.OK
}

// started reports whether the first line has been read: it sets a name, which is not empty.
func (p *parser) started() bool { return p.Name != "" }

// readLines reads lines up to the first one that throws an error, which it returns.
func (p *parser) readLines(s string) (e api.Errno) {
	defer func() {
		if thrown, ok := recover().(api.Errno); ok {
			e = thrown
		}
	}()
	for i, line := range strings.Split(s, lineEnd) {
		p.line = i + 1
		if tokens := meaningful(line); len(tokens) > 0 {
			p.read(tokens)
		}
	}
	return api.OK
}

// require ends the reading with an error unless ok.
func require(ok bool, e api.Errno) {
	if !ok {
		panic(e)
	}
}

// meaningful returns the tokens of a line, or none if it says nothing.
func meaningful(line string) []string {
	var all []string
	for token := range tokensOf(line) {
		if len(all) == 0 && strings.HasPrefix(token, "#") {
			break
		}
		all = append(all, token)
	}
	return all
}

// tokensOf produces the longest parts of a line without blanks.
func tokensOf(line string) iter.Seq[string] {
	return func(yield func(string) bool) {
		rest, more := line, true
		for more {
			var token string
			token, rest, more = strings.Cut(rest, blank)
			if token != "" && !yield(token) {
				return
			}
		}
	}
}

// read reads a line that says something.
func (p *parser) read(tokens []string) {
	if !p.started() {
		p.readHead(tokens)
		return
	}
	require(!p.ended, api.ErrForm)
	if reader, ok := p.readers[tokens[0]]; ok {
		reader(tokens)
	} else {
		p.readCase(tokens)
	}
}

func (p *parser) readHead(tokens []string) {
	require(len(tokens) == 2 && tokens[0] == headToken && metro.IsName(tokens[1]), api.ErrHead)
	p.Name = tokens[1]
}

func (p *parser) readFace(tokens []string) {
	require(len(tokens) == 2, api.ErrForm)
	i := slices.Index(faceNames(), tokens[1])
	require(i >= 0, api.ErrForm)
	p.face, p.column = i+1, notSet
}

func (p *parser) readColumn(tokens []string) {
	require(len(tokens) == 2, api.ErrForm)
	p.column = parseNumber(tokens[1])
}

func (p *parser) readEnd(tokens []string) {
	require(len(tokens) == 1, api.ErrForm)
	p.ended = true
}

func (p *parser) readCase(tokens []string) {
	require(len(tokens) >= 2 && p.face != notSet && p.column != notSet, api.ErrForm)
	c := parseCase(tokens)
	c.Face, c.Column = p.face, p.column
	e := checkCase(p.Cases, c)
	require(e == api.OK, e)
	require(len(p.Cases) < api.MaxCases, api.ErrLimit)
	p.Cases = append(p.Cases, c)
}

// parseCase returns the case of the tokens of a line, without its face and its column.
func parseCase(tokens []string) api.Case {
	kind := slices.Index(kindNames(), tokens[1]) + 1
	require(kind > 0, api.ErrForm)
	c := api.Case{Line: parseNumber(tokens[0]), Kind: kind}
	amount, rest := cutAmount(tokens[2:])
	if kind == api.KindNote {
		require(len(amount) == 0, api.ErrForm)
	} else {
		c.Amount = parseAmount(amount)
	}
	if len(rest) > 0 && rest[0] == goodToken {
		require(kind != api.KindNote && len(rest) >= 2 && metro.IsName(rest[1]), api.ErrForm)
		c.Good, rest = rest[1], rest[2:]
	}
	if len(rest) > 0 {
		require(rest[0] == wordsToken && len(rest) >= 2, api.ErrForm)
		c.Words = parseWords(rest[1:])
	}
	return c
}

// cutAmount divides the tokens after a kind into those of the amount and the rest.
func cutAmount(tokens []string) (amount, rest []string) {
	for i, token := range tokens {
		if token == goodToken || token == wordsToken {
			return tokens[:i], tokens[i:]
		}
	}
	return tokens, nil
}

func parseAmount(tokens []string) api.Numeral {
	n, _, e := numeral.Parse(strings.Join(tokens, blank))
	require(e == api.OK, api.ErrForm)
	return n
}

func parseWords(tokens []string) []api.Word {
	var words []api.Word
	for _, token := range tokens {
		w := wordOf(token)
		require(isWord(w), api.ErrForm)
		words = append(words, w)
	}
	return words
}

// wordOf returns the word of a token; if the token is not that of a word, neither is this one valid.
func wordOf(token string) api.Word {
	switch token {
	case lostToken:
		return api.Word{State: api.WordLost}
	case gapToken:
		return api.Word{State: api.WordGap}
	}
	if text, ok := strings.CutSuffix(token, damageSuffix); ok {
		return api.Word{Text: text, State: api.WordDamaged}
	}
	text, opened := strings.CutPrefix(token, restorePrefix)
	text, closed := strings.CutSuffix(text, restoreSuffix)
	if opened && closed {
		return api.Word{Text: text, State: api.WordRestored}
	}
	return api.Word{Text: token, State: api.WordIntact}
}

// parseNumber returns the number of a token.
func parseNumber(token string) int {
	n, err := strconv.Atoi(token)
	// Atoi also takes signs and leading zeros, which Itoa does not write.
	require(err == nil && n >= 0 && len(token) <= maxDigits && strconv.Itoa(n) == token, api.ErrForm)
	return n
}
