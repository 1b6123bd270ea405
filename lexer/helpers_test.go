package lexer_test

import (
	"math/rand/v2"
	"regexp"
	"slices"
	"strconv"
	"strings"
	"testing"

	"enthymeme/api"
	"enthymeme/lexer"
)

type T = lexer.Token

// The kinds, by their numbers in the chapter.
const (
	Open = iota
	Close
	Word
	Number
	Integer
	Quoted
	End
)

// The forms of the chapter, each at the beginning of what is left of a text.
var (
	gapForm     = regexp.MustCompile(`^(?:[\t\n\r ]|;[^\n]*)*`)
	bareForm    = regexp.MustCompile(`^[a-z0-9#-]+`)
	behindForm  = regexp.MustCompile(`^(?:$|[\t\n\r ;()"])`)
	wordForm    = regexp.MustCompile(`^[a-z][a-z0-9-]*$`)
	numberForm  = regexp.MustCompile(`^(?:#b[01]+|#x[0-9a-f]+)$`)
	integerForm = regexp.MustCompile(`^(?:0|[1-9][0-9]*)$`)
	itemForm    = regexp.MustCompile(`^(?:[ !#-\[\]-~]|\\["\\]|\\x[0-9a-f]{2})`)
	begunForm   = regexp.MustCompile(`^(?:|\\|\\x[0-9a-f]?)$`)
)

// reference is what the chapter says of Tokens, form by form.
func reference(s string) ([]T, int, api.Errno) {
	if len(s) > 65536 {
		return nil, 65536, api.ErrLimit
	}
	var list []T
	for at := 0; ; {
		at += len(gapForm.FindString(s[at:]))
		rest := s[at:]
		switch {
		case rest == "":
			return append(list, T{End, "", at}), 0, api.OK
		case rest[0] == '(':
			list = append(list, T{Open, "", at})
			at++
		case rest[0] == ')':
			list = append(list, T{Close, "", at})
			at++
		case rest[0] == '"':
			text, size, e := referenceString(rest)
			if e != api.OK {
				return nil, at + size, e
			}
			list = append(list, T{Quoted, text, at})
			at += size
		default:
			text := bareForm.FindString(rest)
			kind, e := referenceForm(text)
			if e != api.OK {
				return nil, at, e
			}
			if !behindForm.MatchString(rest[len(text):]) {
				return nil, at + len(text), api.ErrForm
			}
			list = append(list, T{kind, text, at})
			at += len(text)
		}
	}
}

// referenceString returns the bytes of the string in quotation marks with which a text begins, and its size; or an error and its offset.
func referenceString(s string) (string, int, api.Errno) {
	var text []byte
	for at := 1; ; {
		if strings.HasPrefix(s[at:], `"`) {
			return string(text), at + 1, api.OK
		}
		if begunForm.MatchString(s[at:]) {
			return "", len(s), api.ErrMore
		}
		item := itemForm.FindString(s[at:])
		switch len(item) {
		case 0:
			return "", at, api.ErrForm
		case 4:
			n, _ := strconv.ParseUint(item[2:], 16, 8)
			text = append(text, byte(n))
		default:
			text = append(text, item[len(item)-1])
		}
		at += len(item)
	}
}

// referenceForm returns the kind of a word, Number or Integer, or its error.
func referenceForm(s string) (int, api.Errno) {
	kind, most, e := End, 0, api.ErrForm
	switch {
	case wordForm.MatchString(s):
		kind, most, e = Word, 16, api.ErrName
	case numberForm.MatchString(s):
		kind, most, e = Number, map[byte]int{'b': 66, 'x': 18}[s[1]], api.ErrLimit
	case integerForm.MatchString(s):
		kind, most, e = Integer, 13, api.ErrLimit
	}
	if len(s) > most {
		return End, e
	}
	return kind, api.OK
}

// numbered is the item that gives a byte by its number.
func numbered(c byte) string {
	return `\x` + strconv.FormatInt(256+int64(c), 16)[1:]
}

// item is what the chapter says of a byte in Quote.
func item(c byte) string {
	switch {
	case c == '"' || c == '\\':
		return `\` + string(rune(c))
	case c >= 32 && c <= 126:
		return string(rune(c))
	}
	return numbered(c)
}

// quoted is what the chapter says of Quote, without its limit.
func quoted(s string) string {
	text := `"`
	for _, c := range []byte(s) {
		text += item(c)
	}
	return text + `"`
}

// tokens returns the tokens of a text that has to be right.
func tokens(t *testing.T, s string) []T {
	t.Helper()
	list, at, e := lexer.Tokens(s)
	if at != 0 || e != api.OK {
		t.Fatalf("%.200q: %d, %d", s, at, e)
	}
	return list
}

// fails checks the error of a text.
func fails(t *testing.T, s string, at int, e api.Errno) {
	t.Helper()
	if list, gotAt, got := lexer.Tokens(s); len(list) != 0 || gotAt != at || got != e {
		t.Errorf("%.200q: %.20v, %d, %d, not %d, %d", s, list, gotAt, got, at, e)
	}
}

// compare checks the tokens or the error of a text against the reference.
func compare(t *testing.T, s string) {
	t.Helper()
	want, wantAt, f := reference(s)
	if list, at, e := lexer.Tokens(s); !slices.Equal(list, want) || at != wantAt || e != f {
		t.Fatalf("%.200q: %.20v, %d, %d, not %.20v, %d, %d", s, list, at, e, want, wantAt, f)
	}
}

// moved returns tokens with other places.
func moved(list []T, by int) []T {
	list = slices.Clone(list)
	for i := range list {
		list[i].At += by
	}
	return list
}

// bare returns tokens without places.
func bare(list []T) []T {
	list = slices.Clone(list)
	for i := range list {
		list[i].At = 0
	}
	return list
}

// pick returns one of some elements.
func pick[E any](r *rand.Rand, l ...E) E { return l[r.IntN(len(l))] }

// drawn returns bytes of an alphabet.
func drawn(r *rand.Rand, n int, alphabet string) string {
	var s []byte
	for range n {
		s = append(s, alphabet[r.IntN(len(alphabet))])
	}
	return string(s)
}

// allBytes are the bytes 0 to 255.
func allBytes() string {
	var s []byte
	for c := range 256 {
		s = append(s, byte(c))
	}
	return string(s)
}

// randomGap is spaces and comments, at least one; the last comment has a line end behind it.
func randomGap(r *rand.Rand) string {
	var s string
	for range 1 + r.IntN(3) {
		s += pick(r, " ", "\t", "\n", "\r", ";\n", ";; (\"\\\n", ";"+drawn(r, r.IntN(5), "ab\"\\(;\r\t\x00\xff")+"\n")
	}
	return s
}

// randomBytes is a string of any bytes; some of them are more likely.
func randomBytes(r *rand.Rand, most int) string {
	return drawn(r, r.IntN(most+1), pick(r, allBytes(), "ab\"\\x\x00", "\xff;\n ()", "x0a\\"))
}

// randomToken is the text of a token that is right, other than End.
func randomToken(r *rand.Rand) string {
	switch r.IntN(6) {
	case 0:
		return "("
	case 1:
		return ")"
	case 2:
		return drawn(r, 1, "abcxyz") + drawn(r, r.IntN(16), "abxz019-")
	case 3:
		if r.IntN(2) == 0 {
			return "#b" + drawn(r, 1+r.IntN(64), "01")
		}
		return "#x" + drawn(r, 1+r.IntN(16), "0123456789abcdef")
	case 4:
		return pick(r, "0", drawn(r, 1, "123456789")+drawn(r, r.IntN(13), "0123456789"))
	}
	text := `"`
	for _, c := range []byte(randomBytes(r, 6)) {
		text += pick(r, item(c), numbered(c))
	}
	return text + `"`
}

// randomParts are texts of tokens and gaps, in turn, which are right one after the other.
func randomParts(r *rand.Rand, most int) (parts []string, gaps []bool) {
	add := func(s string, gap bool) {
		parts, gaps = append(parts, s), append(gaps, gap)
	}
	before := ""
	for range r.IntN(most + 1) {
		s := randomToken(r)
		if r.IntN(3) > 0 || bareForm.MatchString(before) && bareForm.MatchString(s) {
			add(randomGap(r), true)
		}
		add(s, false)
		before = s
	}
	if r.IntN(2) == 0 {
		add(randomGap(r), true)
	}
	return parts, gaps
}

// randomText is a text that is right.
func randomText(r *rand.Rand, most int) string {
	parts, _ := randomParts(r, most)
	return strings.Join(parts, "")
}

// damaged is a text with a few changes.
func damaged(r *rand.Rand, s string) string {
	for range r.IntN(3) {
		i := r.IntN(len(s) + 1)
		j := min(len(s), i+r.IntN(3))
		s = s[:i] + drawn(r, r.IntN(3), pick(r, allBytes(), "ab09-#xAF\"\\(); \n")) + s[j:]
	}
	return s[:len(s)-r.IntN(min(len(s), 2)+1)]
}

// random returns a source of random numbers.
func random(seed uint64) *rand.Rand {
	return rand.New(rand.NewPCG(9, seed))
}
