package regex

import (
	"strings"

	"enthymeme/api"
)

// Parts of texts, by how firmly they hold together: where one of them can stand, so can all that come after it.
const (
	expression = iota
	conjunction
	sequence
	item
	atom // with any number of stars
)

// Print returns the text of an expression.
func Print(r Regex) (string, api.Errno) {
	if e := Valid(r); e != api.OK {
		return "", e
	}
	return text(r), api.OK
}

// text returns the text of a valid expression.
func text(r Regex) string {
	switch r.Kind {
	case None, Empty:
		return words[r.Kind]
	case Range:
		return rangeText(r.Lo, r.Hi)
	case Not:
		return "!" + part(r.Kids[0], item)
	case Star:
		return part(r.Kids[0], atom) + "*"
	}
	if len(r.Kids) < 2 {
		return words[r.Kind] + "(" + strings.Join(parts(r.Kids, expression), "") + ")"
	}
	switch r.Kind {
	case Alt:
		return strings.Join(parts(r.Kids, conjunction), "|")
	case All:
		return strings.Join(parts(r.Kids, sequence), "&")
	}
	return sequenceText(parts(r.Kids, item))
}

// parts returns the texts of expressions where such parts can stand.
func parts(kids []Regex, least int) []string {
	texts := make([]string, 0, len(kids))
	for _, k := range kids {
		texts = append(texts, part(k, least))
	}
	return texts
}

// part returns the text of an expression, in parentheses if it does not hold together firmly enough.
func part(r Regex, least int) string {
	if firmness(r) < least {
		return "(" + text(r) + ")"
	}
	return text(r)
}

// firmness says what part of texts the text of an expression is.
func firmness(r Regex) int {
	switch {
	case r.Kind == Not:
		return item
	case len(r.Kids) < 2:
		return atom
	case r.Kind == Alt:
		return expression
	case r.Kind == All:
		return conjunction
	}
	return sequence
}

// sequenceText joins the texts of the Kids of a Cat, with spaces where words would run into each other.
func sequenceText(texts []string) string {
	var b strings.Builder
	last := ""
	for _, t := range texts {
		if small(last, len(last)-1) && small(t, 0) {
			b.WriteString(" ")
		}
		b.WriteString(t)
		last = t
	}
	return b.String()
}

// small reports whether a text has a small letter at an index.
func small(s string, i int) bool {
	return i >= 0 && strings.IndexByte(letters, s[i]) >= 0
}

// rangeText returns the text of a Range: its byte, if it has just one.
func rangeText(lo, hi byte) string {
	if lo == hi {
		return byteText(lo)
	}
	return "[" + byteText(lo) + "-" + byteText(hi) + "]"
}

// byteText returns the text of a byte.
func byteText(c byte) string {
	if quotable(c) {
		return "'" + string(rune(c)) + "'"
	}
	return "\\x" + digits[c>>4:c>>4+1] + digits[c&15:c&15+1]
}
