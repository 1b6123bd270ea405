package regex

import (
	"iter"
	"strings"

	"enthymeme/api"
)

const (
	// maxText is the number of bytes of the longest text.
	maxText = 4096
	// signs are the tokens of one byte.
	signs = "(),|&!*"
	// digits are those of base 16, in the order of their values.
	digits = "0123456789abcdef"
	// letters are the bytes of words.
	letters = "abcdefghijklmnopqrstuvwxyz"
	// span is the kind of a token that is a byte or a range.
	span = "["
	// misfit is the kind of a token that fits nowhere.
	misfit = ""
)

// words are the words of the kinds that have one.
var words = [Star + 1]string{None: "none", Empty: "empty", Cat: "cat", Alt: "alt", All: "all"}

// token is a part of a text.
type token struct {
	kind   string // span, misfit, or the sign or the word itself
	at     int    // its offset
	lo, hi byte   // of a span
}

// parser reads tokens.
type parser struct {
	ahead  []token // the last one is a misfit, so there always is a next one
	failed bool    // the next token is the first one that cannot follow; no more are taken
}

// Parse returns the expression of a text, or the offset of an error.
func Parse(s string) (Regex, int, api.Errno) {
	if len(s) > maxText {
		return Regex{}, maxText, api.ErrLimit
	}
	p := newParser(s)
	r := p.expression()
	if at := p.ahead[0].at; p.failed || at < len(s) {
		return Regex{}, at, api.ErrForm
	}
	if tooLarge(r) {
		return Regex{}, len(s), api.ErrLimit
	}
	return r, 0, api.OK
}

// newParser returns a parser of all tokens of a text.
func newParser(s string) *parser {
	p := &parser{}
	for t := range tokens(s) {
		p.ahead = append(p.ahead, t)
	}
	return p
}

// tokens yields the tokens of a text, up to and including the first misfit: the end of the text, or a byte that begins no token.
func tokens(s string) iter.Seq[token] {
	return func(yield func(token) bool) {
		for rest := s; ; {
			rest = strings.TrimLeft(rest, " ")
			t, size := firstToken(rest)
			t.at = len(s) - len(rest)
			if !yield(t) || t.kind == misfit {
				return
			}
			rest = rest[size:]
		}
	}
}

// firstToken returns the token with which a text begins, and its size.
func firstToken(s string) (token, int) {
	if s == "" {
		return token{kind: misfit}, 0
	}
	if strings.IndexByte(signs, s[0]) >= 0 {
		return token{kind: s[:1]}, 1
	}
	if word := s[:len(s)-len(strings.TrimLeft(s, letters))]; word != "" {
		return token{kind: word}, len(word)
	}
	lo, hi, size := firstSpan(s)
	if size == 0 {
		return token{kind: misfit}, 0
	}
	return token{kind: span, lo: lo, hi: hi}, size
}

// firstSpan returns the byte, as both ends, or the range with which a text begins, and its size: 0, if there is none.
func firstSpan(s string) (lo, hi byte, size int) {
	inside, bracket := strings.CutPrefix(s, "[")
	if !bracket {
		c, n := firstByte(s)
		return c, c, n
	}
	lo, m := firstByte(inside)
	second, dash := strings.CutPrefix(inside[m:], "-")
	hi, n := firstByte(second)
	if m == 0 || !dash || n == 0 || !strings.HasPrefix(second[n:], "]") || lo > hi {
		return 0, 0, 0
	}
	return lo, hi, m + n + len("[-]")
}

// firstByte returns the byte that the beginning of a text stands for, and the size of this beginning: 0, if there is none.
func firstByte(s string) (byte, int) {
	if len(s) >= 3 && s[0] == '\'' && quotable(s[1]) && s[2] == '\'' {
		return s[1], 3
	}
	if len(s) >= 4 && s[0] == '\\' && s[1] == 'x' {
		high, low := strings.IndexByte(digits, s[2]), strings.IndexByte(digits, s[3])
		if high >= 0 && low >= 0 {
			return byte(high<<4 | low), 4
		}
	}
	return 0, 0
}

// quotable reports whether a byte can be written in quotes.
func quotable(c byte) bool {
	return c >= 32 && c <= 126 && c != '\'' && c != '\\'
}

// take moves past the next token if it is of this kind.
func (p *parser) take(kind string) bool {
	if p.failed || p.ahead[0].kind != kind {
		return false
	}
	p.ahead = p.ahead[1:]
	return true
}

// expect moves past a token without which no text goes on.
func (p *parser) expect(kind string) {
	if !p.take(kind) {
		p.failed = true
	}
}

// expression reads what | joins.
func (p *parser) expression() Regex {
	return single(Alt, p.list("|", p.conjunction))
}

// conjunction reads what & joins.
func (p *parser) conjunction() Regex {
	return single(All, p.list("&", p.sequence))
}

// sequence reads what no sign joins.
func (p *parser) sequence() Regex {
	kids := []Regex{p.item()}
	for p.goesOn() {
		kids = append(kids, p.item())
	}
	return single(Cat, kids)
}

// goesOn reports whether the next token cannot be one behind a sequence: then it has to begin an item.
func (p *parser) goesOn() bool {
	switch p.ahead[0].kind {
	case "|", "&", ",", ")", misfit:
		return false
	}
	return !p.failed
}

// item reads a Not, or an atom with stars.
func (p *parser) item() Regex {
	if p.take("!") {
		return Regex{Kind: Not, Kids: []Regex{p.item()}}
	}
	r := p.atom()
	for p.take("*") {
		r = Regex{Kind: Star, Kids: []Regex{r}}
	}
	return r
}

// atom reads an expression that nothing outside can take apart.
func (p *parser) atom() Regex {
	next := p.ahead[0]
	switch {
	case p.take(span):
		return Regex{Kind: Range, Lo: next.lo, Hi: next.hi}
	case p.take("("):
		r := p.expression()
		p.expect(")")
		return r
	case p.take(words[None]):
		return Regex{Kind: None}
	case p.take(words[Empty]):
		return Regex{Kind: Empty}
	case p.take(words[Cat]):
		return Regex{Kind: Cat, Kids: p.arguments()}
	case p.take(words[Alt]):
		return Regex{Kind: Alt, Kids: p.arguments()}
	case p.take(words[All]):
		return Regex{Kind: All, Kids: p.arguments()}
	}
	p.failed = true
	return Regex{}
}

// arguments reads the Kids behind a word.
func (p *parser) arguments() []Regex {
	p.expect("(")
	if p.take(")") {
		return nil
	}
	kids := p.list(",", p.expression)
	p.expect(")")
	return kids
}

// list reads one or more parts with a sign between them.
func (p *parser) list(sign string, part func() Regex) []Regex {
	parts := []Regex{part()}
	for p.take(sign) {
		parts = append(parts, part())
	}
	return parts
}

// single returns the only Kid, or an expression of all of them.
func single(kind int, kids []Regex) Regex {
	if len(kids) == 1 {
		return kids[0]
	}
	return Regex{Kind: kind, Kids: kids}
}
