package regex_test

import (
	"math/rand/v2"
	"regexp"
	"strconv"
	"strings"
	"testing"

	"enthymeme/api"
	"enthymeme/regex"
)

// texts are expressions with what Print returns for them.
var texts = []struct {
	r    regex.Regex
	text string
}{
	{none, "none"}, {empty, "empty"}, {a, "'a'"}, {span('a', 'z'), "['a'-'z']"}, {span('a', 'b'), "['a'-'b']"},
	{one(' '), "' '"}, {one('~'), "'~'"}, {one('!'), "'!'"}, {one('"'), `'"'`}, {one('&'), "'&'"}, {one('('), "'('"}, {one('['), "'['"}, {one(']'), "']'"}, {one('-'), "'-'"}, {one('*'), "'*'"}, {one('0'), "'0'"}, {one('A'), "'A'"},
	{one('\''), `\x27`}, {one('\\'), `\x5c`}, {one(0), `\x00`}, {one(31), `\x1f`}, {one(127), `\x7f`}, {one(128), `\x80`}, {one(255), `\xff`}, {one('\n'), `\x0a`}, {one('\t'), `\x09`}, {one(0xa9), `\xa9`},
	{span(0, 255), `[\x00-\xff]`}, {span('\'', 'a'), `[\x27-'a']`}, {span(' ', '\\'), `[' '-\x5c]`}, {span(0, 1), `[\x00-\x01]`}, {span('-', ']'), "['-'-']']"}, {span('}', 127), `['}'-\x7f]`},
	{cat(), "cat()"}, {alt(), "alt()"}, {all(), "all()"}, {cat(a), "cat('a')"}, {alt(a), "alt('a')"}, {all(a), "all('a')"}, {cat(none), "cat(none)"}, {alt(cat()), "alt(cat())"}, {all(alt(cat(empty))), "all(alt(cat(empty)))"},
	{cat(a, b), "'a''b'"}, {alt(a, b), "'a'|'b'"}, {all(a, b), "'a'&'b'"}, {cat(a, b, c), "'a''b''c'"}, {alt(a, b, c), "'a'|'b'|'c'"}, {all(a, b, c), "'a'&'b'&'c'"},
	{not(a), "!'a'"}, {star(a), "'a'*"}, {not(not(a)), "!!'a'"}, {star(star(a)), "'a'**"}, {not(star(a)), "!'a'*"}, {star(not(a)), "(!'a')*"}, {not(star(not(a))), "!(!'a')*"}, {star(not(star(a))), "(!'a'*)*"}, {not(none), "!none"}, {star(empty), "empty*"}, {not(cat()), "!cat()"}, {star(all()), "all()*"}, {not(alt(a)), "!alt('a')"}, {star(cat(a)), "cat('a')*"},
	// Each kind in each.
	{cat(cat(a, b), c), "('a''b')'c'"}, {cat(a, cat(b, c)), "'a'('b''c')"}, {cat(alt(a, b), c), "('a'|'b')'c'"}, {cat(a, all(b, c)), "'a'('b'&'c')"}, {cat(not(a), b), "!'a''b'"}, {cat(a, not(b)), "'a'!'b'"}, {cat(star(a), b), "'a'*'b'"}, {cat(a, star(b)), "'a''b'*"}, {cat(alt(a), all(b)), "alt('a')all('b')"}, {cat(not(a), not(b)), "!'a'!'b'"},
	{alt(alt(a, b), c), "('a'|'b')|'c'"}, {alt(a, alt(b, c)), "'a'|('b'|'c')"}, {alt(cat(a, b), c), "'a''b'|'c'"}, {alt(a, all(b, c)), "'a'|'b'&'c'"}, {alt(not(a), star(b)), "!'a'|'b'*"}, {alt(none, cat()), "none|cat()"},
	{all(alt(a, b), c), "('a'|'b')&'c'"}, {all(a, alt(b, c)), "'a'&('b'|'c')"}, {all(all(a, b), c), "('a'&'b')&'c'"}, {all(a, all(b, c)), "'a'&('b'&'c')"}, {all(cat(a, b), cat(b, c)), "'a''b'&'b''c'"}, {all(not(a), star(b)), "!'a'&'b'*"}, {all(none, empty), "none&empty"},
	{not(cat(a, b)), "!('a''b')"}, {not(alt(a, b)), "!('a'|'b')"}, {not(all(a, b)), "!('a'&'b')"}, {star(cat(a, b)), "('a''b')*"}, {star(alt(a, b)), "('a'|'b')*"}, {star(all(a, b)), "('a'&'b')*"}, {not(not(alt(a, b))), "!!('a'|'b')"}, {star(star(cat(a, b))), "('a''b')**"},
	{cat(cat(a, b)), "cat('a''b')"}, {alt(alt(a, b)), "alt('a'|'b')"}, {all(alt(a, b)), "all('a'|'b')"}, {cat(all(a, b)), "cat('a'&'b')"}, {all(not(a)), "all(!'a')"}, {cat(star(not(a))), "cat((!'a')*)"}, {cat(alt(cat(a, b), c)), "cat('a''b'|'c')"},
	{alt(cat(all(a, b), c), not(cat(a, star(b)))), "('a'&'b')'c'|!('a''b'*)"},
	// The example of the chapter.
	{alt(cat(a, b), not(all(a, span('a', 'z')))), "'a''b'|!('a'&['a'-'z'])"},
	// Words that would run into each other.
	{cat(none, empty), "none empty"}, {cat(none, none, none), "none none none"}, {cat(none, cat()), "none cat()"}, {cat(cat(), none), "cat()none"}, {cat(none, a), "none'a'"}, {cat(a, none), "'a'none"}, {cat(not(none), empty), "!none empty"}, {cat(none, not(empty)), "none!empty"}, {cat(star(none), empty), "none*empty"}, {cat(none, star(empty)), "none empty*"}, {cat(not(not(empty)), star(star(alt()))), "!!empty alt()**"}, {cat(none, cat(empty, none)), "none(empty none)"}, {cat(cat(none, empty), none), "(none empty)none"}, {alt(none, empty), "none|empty"}, {cat(empty, alt(none, empty), empty), "empty(none|empty)empty"},
	{cat(one('\n'), none), `\x0a none`}, {cat(one(0x1f), all()), `\x1f all()`}, {cat(one(0xa0), none), `\xa0none`}, {cat(one('\n'), a), `\x0a'a'`}, {cat(one('\n'), one(0xab)), `\x0a\xab`}, {cat(not(one(0xff)), empty), `!\xff empty`}, {cat(star(one(0xff)), empty), `\xff*empty`}, {cat(span(0, 255), empty), `[\x00-\xff]empty`}, {cat(one('\x7f'), one('\''), empty), `\x7f\x27empty`}, {cat(none, one('\n')), `none\x0a`}, {cat(cat(none, one(0xaa)), empty), `(none\xaa)empty`},
}

// P4.5
func TestPrint(t *testing.T) {
	for i, x := range texts {
		before := copied(x.r)
		if s, e := regex.Print(x.r); s != x.text || e != api.OK {
			t.Errorf("%d: %s: %s, %d, not %s", i, show(x.r), s, e, x.text)
		}
		if !same(before, x.r) {
			t.Errorf("%d: %s has become %s", i, show(before), show(x.r))
		}
	}
	if s, e := regex.Print(cat(times(63, span(0, 255))...)); s != strings.Repeat(`[\x00-\xff]`, 63) || e != api.OK {
		t.Errorf("64 nodes: %s, %d", s, e)
	}
}

// bytesText is the text of each byte, in the form that Print uses.
func bytesText(c int) string {
	if c >= 32 && c <= 126 && c != '\'' && c != '\\' {
		return "'" + string([]byte{byte(c)}) + "'"
	}
	s := strconv.FormatInt(int64(c), 16)
	return `\x` + "00"[len(s):] + s
}

// P4.5 and P4.6: all bytes, in both forms.
func TestBytes(t *testing.T) {
	for c := range 256 {
		want := bytesText(c)
		if s, e := regex.Print(one(byte(c))); s != want || e != api.OK {
			t.Errorf("%d: %s, %d", c, s, e)
		}
		hex := `\x` + strconv.FormatInt(int64(256+c), 16)[1:]
		for _, s := range []string{want, hex, "[" + want + "-" + hex + "]", "[" + hex + "-" + want + "]"} {
			if r, at, e := regex.Parse(s); !same(r, one(byte(c))) || at != 0 || e != api.OK {
				t.Errorf("%s: %s, %d, %d", s, show(r), at, e)
			}
		}
		quoted := "'" + string([]byte{byte(c)}) + "'"
		if r, at, e := regex.Parse(quoted); (e == api.OK) != (quoted == want) || e != api.OK && (!zero(r) || at != 0 || e != api.ErrForm) {
			t.Errorf("%q: %s, %d, %d", quoted, show(r), at, e)
		}
		bare := string([]byte{byte(c)})
		if r, at, e := regex.Parse(bare); !strings.Contains(" !(", bare) && (!zero(r) || at != 0 || e != api.ErrForm) {
			t.Errorf("%q: %s, %d, %d", bare, show(r), at, e)
		}
		if r, at, e := regex.Parse("'a'" + bare); !strings.Contains(" *&|!(", bare) && (!zero(r) || at != 3 || e != api.ErrForm) {
			t.Errorf("'a'%q: %s, %d, %d", bare, show(r), at, e)
		}
	}
}

// P4.6
func TestParse(t *testing.T) {
	for i, x := range texts {
		if r, at, e := regex.Parse(x.text); !same(r, x.r) || at != 0 || e != api.OK {
			t.Errorf("%d: %s: %s, %d, %d, not %s", i, x.text, show(r), at, e, show(x.r))
		}
	}
	for i, x := range []struct {
		s    string
		want regex.Regex
	}{
		{"('a')", a}, {"((('a')))", a}, {"('a')*", star(a)}, {"!('a')", not(a)}, {"('a'*)*", star(star(a))}, {"(!'a')", not(a)}, {"!(!'a')", not(not(a))}, {"('a'|'b')", alt(a, b)}, {"('a''b')|'c'", alt(cat(a, b), c)}, {"'a'&('b''c')", all(a, cat(b, c))}, {"('a'*)'b'", cat(star(a), b)},
		{"alt('a','b')", alt(a, b)}, {"all('a','b','c')", all(a, b, c)}, {"cat('a','b')", cat(a, b)}, {"alt('a'|'b','c')", alt(alt(a, b), c)}, {"cat('a''b','c')", cat(cat(a, b), c)}, {"all('a','b'&'c')", all(a, all(b, c))}, {"cat(cat(),alt(),all())", cat(cat(), alt(), all())}, {"alt(('a'))", alt(a)}, {"alt('a')*", star(alt(a))}, {"!all()*", not(star(all()))}, {"cat('a')cat('b')", cat(cat(a), cat(b))}, {"none('a')", cat(none, a)}, {"empty(empty)", cat(empty, empty)}, {"alt()|all()&cat()", alt(alt(), all(all(), cat()))},
		{" 'a' ", a}, {"   none   ", none}, {"'a' 'b'", cat(a, b)}, {" ! 'a' * * ", not(star(star(a)))}, {"alt ( 'a' , 'b' )", alt(a, b)}, {"cat ( )", cat()}, {"( 'a' | 'b' ) & ! 'c'", all(alt(a, b), not(c))}, {"' ' ' '", cat(one(' '), one(' '))}, {"' '", one(' ')}, {"none empty", cat(none, empty)}, {`\x0anone`, cat(one('\n'), none)}, {`\x61 \x62`, cat(a, b)}, {`\x61\x62`, cat(a, b)},
		{`\x61`, a}, {`['a'-\x63]`, span('a', 'c')}, {`['a'-'a']`, a}, {`[\x00-\x00]`, one(0)}, {"[']'-'a']", span(']', 'a')}, {"['-'-'-']", one('-')}, {"['['-']']", span('[', ']')}, {"['a'-'b']['b'-'c']*", cat(span('a', 'b'), star(span('b', 'c')))},
		{strings.Repeat("(", 2000) + "'a'" + strings.Repeat(")", 2000), a}, {strings.Repeat("(", 2046) + "none" + strings.Repeat(")", 2046), none}, {strings.Repeat(" ", 4092) + "none", none}, {"none" + strings.Repeat(" ", 4092), none},
		{strings.Repeat("'a'", 63), cat(times(63, a)...)}, {strings.Repeat("!", 63) + "'a'", nested(63, a, not)}, {"none" + strings.Repeat("*", 63), nested(63, none, star)}, {"alt(" + strings.Repeat("none,", 62) + "none)", alt(times(63, none)...)},
	} {
		if r, at, e := regex.Parse(x.s); !same(r, x.want) || at != 0 || e != api.OK {
			t.Errorf("%d: %s: %s, %d, %d, not %s", i, x.s, show(r), at, e, show(x.want))
		}
	}
}

// P4.6: ErrForm, with offsets. A ^ is no part of the text: it stands ahead of the offset.
func TestParseForm(t *testing.T) {
	for i, marked := range []string{
		"^", "  ^", "'a'|^", "'a'| ^", "'a'&^", "!^", "!! ^", "(^", "('a'^", "('a'|^", "(('a')^", "alt^", "alt ^", "alt(^", "alt('a'^", "alt('a',^", "alt('a', ^", "cat(alt()^", "none|all(none)&^",
		"^|'a'", "^&", "^*", "^,", "^)", "'a'^)", "('a')^)", "(^)", "'a'^,'b'", "('a'^,'b')", "alt(('a'^,'b'))", "'a'|^|'b'", "'a'|^&'b'", "'a'&^|'b'", "!^*", "!^|", "!^)", "(^*)", "'a'|^*", "alt^'a'", "alt^)", "alt^*", "alt ^alt()", "^altalt()", "alt(^,", "alt('a',^)", "alt('a',^,'b')", "alt('a'|^,", "alt(^*)", "alt()^)", "cat(^|)", "none(^)", "empty|(^)", " 'a' ^, ", "all('a' !^", "!'a'^,",
		"^non", "^nonee", "^nonempty", "^noneempty", "^emp", "^al", "^a", "^alternative()", "'a'^x", "'a'|^nons", "'a'^non", "(^cats)", "none ^alts()", `\x0a^bc`, `\x0a^anone`, "alt(none^1", "all ^none", "^allnone",
		"^'", "^''", "^'a", "^'''", "^'\\'", "^'ab'", "^'a '", "'a'^'", "'a'^'b", "'a'|^'", "^'\x7f'", "^'\x1f'", "^'\x80'", "^'\n'", "^'\u00e9'", "('a'^'",
		"^\\", "^\\x", "^\\x6", "^\\x6g", "^\\xg6", "^\\X61", "^\\x6A", "^\\xA6", "^\\ x61", "^\\x 61", "^\\n", "^\\\\", "^\\'", "\\x61^1", "\\x61^\\", "'a'&^\\x",
		"^[", "^[]", "^['a']", "^['a'-]", "^['a'-'b'", "^['a''b']", "^['a'-'b')", "^[-'b']", "^[\\x00-]", "^[-]", "^[\\x00]", "^[\\x00\\x01]", "^[a-z]", "^['b'-'a']", "^[\\xff-\\x00]", "^[ 'a'-'b']", "^['a' -'b']", "^['a'- 'b']", "^['a'-'b' ]", "^['a'-\\x6]", "^[\\x6-'a']", "^['a'-'b'-'c']", "^[['a'-'b']]", "'a'^[", "!^[none-none]", "('a'&^[a-z])", "^['a'--'b']", "^['a'-'''", "^[''-'a']",
		"^A", "^0", "^.", "^+", "^?", "^]", "^-", "^\"a\"", "^\x00", "^\t'a'", "'a'^\n", "'a' ^\t", "^\xff", "^\u00e9", "^{", "'a'^{2}", "'a'^]", "'a'^-'b'", "'a'^?", "('a'^;)", "'a'^0", "none^0", "alt^0()", "alt(^0)",
		"'a''b'|!('a'&^[a-z])",
		strings.Repeat("(", 4096) + "^", strings.Repeat("!", 4096) + "^", strings.Repeat("(", 4095) + "^)", strings.Repeat("alt(", 1024) + "^", strings.Repeat("'a'", 1364) + "^)", strings.Repeat("!", 4000) + "^*", strings.Repeat(" ", 4096) + "^", strings.Repeat("'a'", 1365) + "^'",
	} {
		at := strings.Index(marked, "^")
		s := marked[:at] + marked[at+1:]
		if r, got, e := regex.Parse(s); !zero(r) || got != at || e != api.ErrForm {
			t.Errorf("%d: %q: %s, %d, %d, not %d", i, s, show(r), got, e, at)
		}
	}
}

// P4.6: ErrLimit, for too many bytes ahead of all, and for too many nodes behind all.
func TestParseLimit(t *testing.T) {
	a64 := strings.Repeat("'a'", 64)
	for i, x := range []struct {
		s  string
		at int
		e  api.Errno
	}{
		{strings.Repeat(" ", 4097), 4096, api.ErrLimit}, {strings.Repeat(")", 4097), 4096, api.ErrLimit}, {"none" + strings.Repeat(" ", 4093), 4096, api.ErrLimit}, {strings.Repeat("(", 1000000), 4096, api.ErrLimit}, {strings.Repeat("'a'", 1366), 4096, api.ErrLimit}, {strings.Repeat("\x00", 5000), 4096, api.ErrLimit},
		{a64, 192, api.ErrLimit}, {a64 + " ", 193, api.ErrLimit}, {strings.Repeat("!", 64) + "'a'", 67, api.ErrLimit}, {"none" + strings.Repeat("*", 64), 68, api.ErrLimit}, {"alt(" + strings.Repeat("none,", 63) + "none)", 324, api.ErrLimit}, {"cat(" + strings.Repeat("'a'", 63) + ")", 194, api.ErrLimit}, {strings.Repeat("alt(", 64) + "none" + strings.Repeat(")", 64), 324, api.ErrLimit}, {strings.Repeat("'a'", 1365), 4095, api.ErrLimit}, {strings.Repeat("!", 4093) + "'a'", 4096, api.ErrLimit},
		{a64 + ")", 192, api.ErrForm}, {a64 + "|", 193, api.ErrForm}, {a64 + "#", 192, api.ErrForm}, {"(" + a64, 193, api.ErrForm},
	} {
		if r, at, e := regex.Parse(x.s); !zero(r) || at != x.at || e != x.e {
			t.Errorf("%d: %s, %d, %d, not %d, %d", i, show(r), at, e, x.at, x.e)
		}
	}
}

// tokenForms are the forms of tokens, each at the beginning of what is left.
var tokenForms = regexp.MustCompile(`^(?:[(),|&!*]|[a-z]+|('[ -&(-\[\]-~]'|\\x[0-9a-f]{2})|\[('[ -&(-\[\]-~]'|\\x[0-9a-f]{2})-('[ -&(-\[\]-~]'|\\x[0-9a-f]{2})\])`)

// value returns the byte of a text of one.
func value(s string) int {
	if s[0] == '\'' {
		return int(s[1])
	}
	n, _ := strconv.ParseInt(s[2:], 16, 64)
	return int(n)
}

// nextToken returns the token with which s begins, or nothing.
func nextToken(s string) string {
	m := tokenForms.FindStringSubmatch(s)
	if m == nil || m[2] != "" && value(m[2]) > value(m[3]) {
		return ""
	}
	return m[0]
}

// misfit reads a text with a stack of open parentheses, and returns the offset of the first token that cannot follow, or -1 for a text.
func misfit(s string) int {
	const (
		operand = iota // an operand has to come
		open           // a parenthesis, behind a word
		first          // an operand, or the end of an empty list
		done           // behind an operand
	)
	state, stack := operand, ""
	for at := 0; ; {
		for at < len(s) && s[at] == ' ' {
			at++
		}
		if at == len(s) {
			if state == done && stack == "" {
				return -1
			}
			return at
		}
		token := nextToken(s[at:])
		list := strings.HasSuffix(stack, "w")
		switch {
		case token == "":
			return at
		case state == open && token == "(":
			state, stack = first, stack+"w"
		case state == open:
			return at
		case token == "(":
			state, stack = operand, stack+"("
		case token == "!":
			state = operand
		case token == "alt" || token == "all" || token == "cat":
			state = open
		case token == "none" || token == "empty" || strings.Contains(`'\[`, token[:1]):
			state = done
		case token == ")" && stack != "" && (state == done || state == first):
			state, stack = done, stack[:len(stack)-1]
		case state == done && token == "*":
		case state == done && (token == "|" || token == "&" || token == "," && list):
			state = operand
		default:
			return at
		}
		at += len(token)
	}
}

// P4.6: tokens in any order, against a reader with a stack.
func TestParseAtRandom(t *testing.T) {
	r := rand.New(rand.NewPCG(4, 6))
	parts := []string{"(", "(", ")", ")", ")", ",", "|", "&", "!", "*", "'a'", "'a'", "'b'", "none", "empty", "alt", "all", "cat", "alt(", "cat(", "['a'-'b']", `\x0a`, `[\x00-'z']`, " ", "  ", "x", "'", "[", "\\", "0", "['b'-'a']", "\t"}
	good, late := 0, 0
	for range 200000 {
		s := ""
		// The last parts are those that fit nowhere.
		few := len(parts) - 7*r.IntN(2)
		for range 1 + r.IntN(10) {
			s += parts[r.IntN(few)]
		}
		x, at, e := regex.Parse(s)
		want := misfit(s)
		if want < 0 {
			good++
			if e != api.OK || at != 0 {
				t.Fatalf("%q: %d, %d", s, at, e)
			}
			continue
		}
		if want > 5 {
			late++
		}
		if e != api.ErrForm || at != want || !zero(x) {
			t.Fatalf("%q: %s, %d, %d, not %d", s, show(x), at, e, want)
		}
	}
	if good < 1000 || late < 10000 {
		t.Errorf("%d texts, and %d with a late error", good, late)
	}
}

// writer writes tokens of a text that has more of everything than it needs.
type writer struct {
	*rand.Rand
	tokens []string
}

func (w *writer) add(tokens ...string) {
	w.tokens = append(w.tokens, tokens...)
}

func (w *writer) char(c byte) string {
	if s := bytesText(int(c)); w.IntN(3) > 0 {
		return s
	}
	return `\x` + strconv.FormatInt(256+int64(c), 16)[1:]
}

// expression writes all parentheses that might be needed, and some more.
func (w *writer) expression(r regex.Regex) {
	if len(r.Kids) > 0 || w.IntN(5) == 0 {
		w.add("(")
		defer w.add(")")
	}
	names := map[int]string{regex.None: "none", regex.Empty: "empty", regex.Cat: "cat", regex.Alt: "alt", regex.All: "all"}
	signs := map[int]string{regex.Cat: "", regex.Alt: "|", regex.All: "&"}
	switch r.Kind {
	case regex.None, regex.Empty:
		w.add(names[r.Kind])
	case regex.Range:
		if r.Lo == r.Hi && w.IntN(3) > 0 {
			w.add(w.char(r.Lo))
		} else {
			w.add("[" + w.char(r.Lo) + "-" + w.char(r.Hi) + "]")
		}
	case regex.Not:
		w.add("!")
		w.expression(r.Kids[0])
	case regex.Star:
		w.expression(r.Kids[0])
		w.add("*")
	default:
		sign := signs[r.Kind]
		if len(r.Kids) < 2 || w.IntN(4) == 0 {
			sign = ","
			w.add(names[r.Kind], "(")
			defer w.add(")")
		}
		for i, k := range r.Kids {
			if i > 0 && sign != "" {
				w.add(sign)
			}
			w.expression(k)
		}
	}
}

// spaced joins tokens, with spaces where words need them, and more at random.
func (w *writer) spaced() string {
	s := strings.Repeat(" ", w.IntN(3))
	for i, token := range w.tokens {
		s += token
		if i+1 < len(w.tokens) && wordsMeet(token, w.tokens[i+1]) || w.IntN(4) == 0 {
			s += strings.Repeat(" ", 1+w.IntN(2))
		}
	}
	return s
}

// wordsMeet reports whether a small letter would come right behind another one.
func wordsMeet(s, t string) bool {
	small := func(c byte) bool { return c >= 'a' && c <= 'z' }
	return small(s[len(s)-1]) && small(t[0])
}

// P4.6: texts with more parentheses, words and spaces than they need.
func TestParseMore(t *testing.T) {
	r := rand.New(rand.NewPCG(46, 1))
	for range 20000 {
		x := random(r, 1+r.IntN(1+r.IntN(64)))
		w := &writer{Rand: r}
		w.expression(x)
		s := w.spaced()
		if got, at, e := regex.Parse(s); !same(got, x) || at != 0 || e != api.OK {
			t.Fatalf("%s: %s, %d, %d, not %s", s, show(got), at, e, show(x))
		}
	}
}

// leastTokens leaves out each pair of parentheses without which an expression is still read. Those behind a word stay, since nothing is read without them.
func leastTokens(t *testing.T, tokens []string, want regex.Regex) []string {
	t.Helper()
	for i := 0; i < len(tokens); i++ {
		if tokens[i] != "(" {
			continue
		}
		end, depth := i, 0
		for ; ; end++ {
			if tokens[end] == "(" {
				depth++
			}
			if tokens[end] == ")" {
				depth--
			}
			if depth == 0 {
				break
			}
		}
		var fewer []string
		fewer = append(fewer, tokens[:i]...)
		fewer = append(fewer, tokens[i+1:end]...)
		fewer = append(fewer, tokens[end+1:]...)
		if got, _, e := regex.Parse(strings.Join(fewer, " ")); e == api.OK && same(got, want) {
			tokens = fewer
			i--
		}
	}
	return tokens
}

// P4.5: no parentheses can be left out, and none that have to be there are missing.
func TestPrintLeast(t *testing.T) {
	r := rand.New(rand.NewPCG(4, 5))
	for range 5000 {
		x := random(r, 1+r.IntN(20))
		// Words and ranges in the forms that Print uses.
		w := &writer{Rand: rand.New(rand.NewPCG(1, 1))}
		w.plain(x)
		tokens := leastTokens(t, w.tokens, x)
		want := ""
		for i, token := range tokens {
			if i > 0 && wordsMeet(tokens[i-1], token) {
				want += " "
			}
			want += token
		}
		if s, e := regex.Print(x); s != want || e != api.OK {
			t.Fatalf("%s: %s, %d, not %s", show(x), s, e, want)
		}
	}
}

// plain writes what Print writes, but with parentheses around everything.
func (w *writer) plain(r regex.Regex) {
	w.add("(")
	defer w.add(")")
	switch {
	case r.Kind == regex.None:
		w.add("none")
	case r.Kind == regex.Empty:
		w.add("empty")
	case r.Kind == regex.Range && r.Lo == r.Hi:
		w.add(bytesText(int(r.Lo)))
	case r.Kind == regex.Range:
		w.add("[" + bytesText(int(r.Lo)) + "-" + bytesText(int(r.Hi)) + "]")
	case r.Kind == regex.Not:
		w.add("!")
		w.plain(r.Kids[0])
	case r.Kind == regex.Star:
		w.plain(r.Kids[0])
		w.add("*")
	case len(r.Kids) < 2:
		w.add([]string{regex.Cat: "cat", regex.Alt: "alt", regex.All: "all"}[r.Kind], "(")
		for _, k := range r.Kids {
			w.plain(k)
		}
		w.add(")")
	default:
		for i, k := range r.Kids {
			if i > 0 && r.Kind != regex.Cat {
				w.add([]string{regex.Alt: "|", regex.All: "&"}[r.Kind])
			}
			w.plain(k)
		}
	}
}

// split returns the tokens of a text.
func split(t *testing.T, s string) []string {
	t.Helper()
	var tokens []string
	for s = strings.TrimLeft(s, " "); s != ""; s = strings.TrimLeft(s, " ") {
		token := nextToken(s)
		if token == "" {
			t.Fatalf("no token: %q", s)
		}
		tokens = append(tokens, token)
		s = s[len(token):]
	}
	return tokens
}

// P4.11
func TestBack(t *testing.T) {
	r := rand.New(rand.NewPCG(4, 11))
	for range 20000 {
		x := random(r, 1+r.IntN(64))
		s, e := regex.Print(x)
		if e != api.OK {
			t.Fatalf("%s: %d", show(x), e)
		}
		w := &writer{Rand: r, tokens: split(t, s)}
		for _, s := range []string{s, w.spaced(), " " + s + "  ", strings.Repeat(" ", 4096-len(s)) + s, s + strings.Repeat(" ", 4096-len(s))} {
			if got, at, e := regex.Parse(s); !same(got, x) || at != 0 || e != api.OK {
				t.Fatalf("%s: %s, %d, %d, not %s", s, show(got), at, e, show(x))
			}
		}
		if got, at, e := regex.Parse(s + strings.Repeat(" ", 4097-len(s))); !zero(got) || at != 4096 || e != api.ErrLimit {
			t.Fatalf("%s with too many spaces: %d, %d", s, at, e)
		}
	}
}

// R3: Parse shares no memory among its lists.
func TestParseSeparateMemory(t *testing.T) {
	for _, x := range texts {
		r, _, _ := regex.Parse(x.text)
		separate(t, x.text, r)
	}
}
