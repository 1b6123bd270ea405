package lexer_test

import (
	"slices"
	"strings"
	"testing"

	"enthymeme/api"
	"enthymeme/lexer"
)

// quotes checks the text of a string.
func quotes(t *testing.T, s, want string) {
	t.Helper()
	if got, e := lexer.Quote(s); got != want || e != api.OK {
		t.Errorf("%.200q: %.200s, %d, not %.200s", s, got, e, want)
	}
}

// back checks P9.3 for a string.
func back(t *testing.T, s string) {
	t.Helper()
	text, e := lexer.Quote(s)
	if e != api.OK {
		t.Fatalf("%.200q: %d", s, e)
	}
	if got := tokens(t, text); !slices.Equal(got, []T{{Quoted, s, 0}, {End, "", len(text)}}) {
		t.Fatalf("%.200q: %.200s: %v", s, text, got)
	}
}

// P9.2
func TestQuote(t *testing.T) {
	for _, x := range [][2]string{
		{"", `""`}, {"a", `"a"`}, {" ", `" "`}, {"~", `"~"`}, {"!", `"!"`}, {"#", `"#"`}, {"[", `"["`}, {"]", `"]"`}, {"'", `"'"`}, {";", `";"`}, {"AZaz09", `"AZaz09"`}, {"a (b) ; c", `"a (b) ; c"`},
		{`"`, `"\""`}, {`\`, `"\\"`}, {`\\`, `"\\\\"`}, {`""`, `"\"\""`}, {`\"`, `"\\\""`}, {`a"b`, `"a\"b"`}, {`\x00`, `"\\x00"`}, {`x00`, `"x00"`},
		{"\x00", `"\x00"`}, {"\x1f", `"\x1f"`}, {"\x7f", `"\x7f"`}, {"\x80", `"\x80"`}, {"\xff", `"\xff"`}, {"\n", `"\x0a"`}, {"\t", `"\x09"`}, {"\r\n", `"\x0d\x0a"`}, {"\xab\xcd\xef", `"\xab\xcd\xef"`}, {"\u00e9", `"\xc3\xa9"`}, {"a\x00b", `"a\x00b"`}, {"\n0", `"\x0a0"`}, {"\x9a\xa9", `"\x9a\xa9"`},
		{"a\"\x00", `"a\"\x00"`},
	} {
		quotes(t, x[0], x[1])
	}
}

// P9.2 and P9.3: each byte, and each two bytes.
func TestQuoteEachByte(t *testing.T) {
	for _, c := range []byte(allBytes()) {
		one := string([]byte{c})
		quotes(t, one, quoted(one))
		back(t, one)
		for _, d := range []byte(allBytes()) {
			two := string([]byte{c, d})
			quotes(t, two, quoted(two))
			back(t, two)
		}
	}
	quotes(t, allBytes(), quoted(allBytes()))
	back(t, allBytes())
}

// P9.2: ErrLimit.
func TestQuoteLimit(t *testing.T) {
	rep := strings.Repeat
	for i, x := range []struct {
		s  string
		ok bool
	}{
		{rep("a", 65533), true}, {rep("a", 65534), true}, {rep("a", 65535), false}, {rep("a", 65536), false}, {rep("a", 65537), false}, {rep("a", 1<<22), false},
		{rep("\"", 32767), true}, {rep("\\", 32767), true}, {rep("\\", 32768), false}, {rep("\"", 32766) + "ab", true}, {rep("\"", 32766) + "abc", false}, {rep("\"", 32767) + "a", false}, {"a" + rep("\"", 32767), false},
		{rep("\x00", 16383), true}, {rep("\xff", 16383) + "ab", true}, {"ab" + rep("\xff", 16383), true}, {rep("\n", 16383) + "abc", false}, {rep("\n", 16384), false}, {rep("\n", 16383) + "\"", true}, {rep("\n", 16383) + "\"a", false}, {"a" + rep("\n", 16383) + "\"", false}, {"abc" + rep("\n", 16383), false}, {rep("\n", 65534), false}, {rep("\n", 65536), false},
	} {
		text, e := lexer.Quote(x.s)
		if !x.ok && (text != "" || e != api.ErrLimit) || x.ok && (text != `"`+escaped(x.s)+`"` || e != api.OK) {
			t.Errorf("%d: %d bytes, %d", i, len(text), e)
		}
		if x.ok {
			back(t, x.s)
		}
	}
}

// escaped writes the bytes that TestQuoteLimit uses.
func escaped(s string) string {
	return strings.NewReplacer(`"`, `\"`, `\`, `\\`, "\x00", `\x00`, "\xff", `\xff`, "\n", `\x0a`).Replace(s)
}

// P9.2 and P9.3: random strings.
func TestQuoteRandom(t *testing.T) {
	r := random(9)
	for range 30000 {
		s := randomBytes(r, 40)
		quotes(t, s, quoted(s))
		back(t, s)
	}
}
