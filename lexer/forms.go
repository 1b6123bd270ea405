package lexer

import (
	"strings"

	"enthymeme/api"
)

// Ranges of bytes: the first and the last byte of each, one range after the other.
const (
	spaces  = "\t\n\r\r  "
	letters = "az"
	bits    = "01"
	digits  = "09"
	hex     = "09af"
	// plain are the bytes that stand for themselves in strings.
	plain = " !#[]~"
	// wordly are the bytes of words.
	wordly = "az09--"
	// bare are the bytes with which words, Numbers and Integers go on.
	bare = wordly + "##"
)

const (
	// bitsMark and hexMark begin Numbers.
	bitsMark = "#b"
	hexMark  = "#x"
	// maxBits and maxHex are the numbers of digits of the longest Numbers, and maxInteger that of the longest Integer.
	maxBits    = api.MaxWidth
	maxHex     = api.MaxWidth / 4
	maxInteger = 13
)

// within reports whether a byte or a rune is in one of the ranges.
func within[C byte | rune](c C, ranges string) bool {
	for i := 0; i < len(ranges); i += 2 {
		if C(ranges[i]) <= c && c <= C(ranges[i+1]) {
			return true
		}
	}
	return false
}

// span returns the number of bytes in ranges with which a text begins.
func span(s, ranges string) int {
	// A byte from 128 on is a rune from 128 on or a part of one, and in no range either way.
	return len(s) - len(strings.TrimLeftFunc(s, func(c rune) bool { return within(c, ranges) }))
}

// form returns the kind of a text that is a word, Number or Integer.
func form(s string) (int, api.Errno) {
	switch {
	case strings.HasPrefix(s, bitsMark) && consists(s[len(bitsMark):], bits):
		return Number, longest(s, len(bitsMark)+maxBits, api.ErrLimit)
	case strings.HasPrefix(s, hexMark) && consists(s[len(hexMark):], hex):
		return Number, longest(s, len(hexMark)+maxHex, api.ErrLimit)
	case consists(s, digits) && (s[0] != '0' || s == "0"):
		return Integer, longest(s, maxInteger, api.ErrLimit)
	case consists(s, wordly) && within(s[0], letters):
		return Word, longest(s, api.MaxName, api.ErrName)
	}
	return 0, api.ErrForm
}

// consists reports whether a text is not empty and all its bytes are in ranges.
func consists(s, ranges string) bool {
	return s != "" && span(s, ranges) == len(s)
}

// longest returns an error for a text of more than a number of bytes.
func longest(s string, most int, e api.Errno) api.Errno {
	if len(s) > most {
		return e
	}
	return api.OK
}
