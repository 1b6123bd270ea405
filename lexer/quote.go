package lexer

import (
	"strings"

	"enthymeme/api"
)

const (
	// mark is the quotation mark.
	mark = '"'
	// escape begins the items of more than one byte, and byNumber follows it in those that give a byte by its number.
	escape   = '\\'
	byNumber = 'x'
	// values are the digits of base 16, in the order of their values.
	values = "0123456789abcdef"
)

// Quote returns the text of a string.
func Quote(s string) (string, api.Errno) {
	text := []byte{mark}
	for i := range len(s) {
		text = appendItem(text, s[i])
		// The second mark needs room, too.
		if len(text) >= api.MaxText {
			return "", api.ErrLimit
		}
	}
	return string(append(text, mark)), api.OK
}

// appendItem appends the item that stands for a byte.
func appendItem(text []byte, c byte) []byte {
	switch {
	case within(c, plain):
		return append(text, c)
	case c == mark || c == escape:
		return append(text, escape, c)
	}
	return append(text, escape, byNumber, values[c>>4], values[c&15])
}

// firstItem returns the byte that the item with which a text begins stands for, and its size. With ErrMore the whole text is the beginning of an item, with ErrForm no item begins like this.
func firstItem(s string) (byte, int, api.Errno) {
	switch {
	case within(s[0], plain):
		return s[0], 1, api.OK
	case s[0] != escape:
		return 0, 0, api.ErrForm
	case len(s) == 1:
		return 0, 0, api.ErrMore
	case s[1] == mark || s[1] == escape:
		return s[1], 2, api.OK
	case s[1] == byNumber:
		return firstNumber(s)
	}
	return 0, 0, api.ErrForm
}

// firstNumber does what firstItem does for a text that begins with an escape and byNumber.
func firstNumber(s string) (byte, int, api.Errno) {
	var c byte
	for i := 2; i < 4; i++ {
		if i == len(s) {
			return 0, 0, api.ErrMore
		}
		if !within(s[i], hex) {
			return 0, 0, api.ErrForm
		}
		c = c<<4 | byte(strings.IndexByte(values, s[i]))
	}
	return c, 4, api.OK
}
