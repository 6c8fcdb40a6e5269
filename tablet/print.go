package tablet

import (
	"strconv"
	"strings"

	"bulla/api"
	"bulla/numeral"
)

// The tokens that a text has beside names, numbers and amounts.
const (
	headToken   = "tablet"
	faceToken   = "face"
	columnToken = "column"
	endToken    = "end"
	goodToken   = ";"
	wordsToken  = ":"
	lostToken   = "-"
	gapToken    = "..."
)

// What a word that is not intact has around its Text.
const (
	damageSuffix  = "#"
	restorePrefix = "["
	restoreSuffix = "]"
)

const (
	blank   = " "
	lineEnd = "\n"
)

// faceNames returns the names of the faces, from FaceObverse on.
func faceNames() []string {
	return []string{"obverse", "reverse", "left", "right", "top", "bottom"}
}

// kindNames returns the names of the kinds of cases, from KindEntry on.
func kindNames() []string { return []string{"entry", "subtotal", "total", "note"} }

// Print returns the text of a tablet.
func Print(t api.Tablet) (string, api.Errno) {
	if e := Check(t); e != api.OK {
		return "", e
	}
	lines := []string{headToken + blank + t.Name}
	for i, c := range t.Cases {
		if startsFace(t.Cases, i) {
			lines = append(lines, faceToken+blank+faceNames()[c.Face-1])
		}
		if startsColumn(t.Cases, i) {
			lines = append(lines, columnToken+blank+strconv.Itoa(c.Column))
		}
		lines = append(lines, caseLine(c))
	}
	lines = append(lines, endToken)
	text := strings.Join(lines, lineEnd) + lineEnd
	if len(text) > api.MaxText {
		return "", api.ErrLimit
	}
	return text, api.OK
}

// caseLine returns the line of a valid case.
func caseLine(c api.Case) string {
	tokens := []string{strconv.Itoa(c.Line), kindNames()[c.Kind-1]}
	if c.Kind != api.KindNote {
		amount, _ := numeral.Text(c.Amount)
		tokens = append(tokens, amount)
	}
	if c.Good != "" {
		tokens = append(tokens, goodToken, c.Good)
	}
	if len(c.Words) > 0 {
		tokens = append(tokens, wordsToken)
	}
	for _, w := range c.Words {
		tokens = append(tokens, wordToken(w))
	}
	return strings.Join(tokens, blank)
}

// wordToken returns the token of a valid word.
func wordToken(w api.Word) string {
	switch w.State {
	case api.WordDamaged:
		return w.Text + damageSuffix
	case api.WordRestored:
		return restorePrefix + w.Text + restoreSuffix
	case api.WordLost:
		return lostToken
	case api.WordGap:
		return gapToken
	}
	return w.Text
}
