package lexer_test

import (
	"slices"
	"strconv"
	"strings"
	"testing"

	"enthymeme/api"
	"enthymeme/lexer"
)

// The kinds have the numbers of the chapter.
func TestKinds(t *testing.T) {
	got := []int{lexer.Open, lexer.Close, lexer.Word, lexer.Number, lexer.Integer, lexer.Quoted, lexer.End}
	if !slices.Equal(got, []int{0, 1, 2, 3, 4, 5, 6}) {
		t.Error(got)
	}
}

// P9.1
func TestTokens(t *testing.T) {
	b64, x16 := "#b"+strings.Repeat("01", 32), "#x0123456789abcdef"
	for i, x := range []struct {
		s    string
		want []T
	}{
		{"", []T{{End, "", 0}}}, {" ", []T{{End, "", 1}}}, {"\t\n\r ", []T{{End, "", 4}}},
		{"(", []T{{Open, "", 0}, {End, "", 1}}}, {")", []T{{Close, "", 0}, {End, "", 1}}}, {"))(", []T{{Close, "", 0}, {Close, "", 1}, {Open, "", 2}, {End, "", 3}}},
		// Comments.
		{";", []T{{End, "", 1}}}, {";\n", []T{{End, "", 2}}}, {"; (a \"b\\\n", []T{{End, "", 9}}}, {";a\nb", []T{{Word, "b", 3}, {End, "", 4}}}, {";\x00\x7f\xff\u00e9A~\t\r(\n0", []T{{Integer, "0", 12}, {End, "", 13}}}, {";a\rb", []T{{End, "", 4}}}, {";a;b\n;c", []T{{End, "", 7}}}, {";;\n\n;\n)", []T{{Close, "", 6}, {End, "", 7}}}, {"a;b\nc", []T{{Word, "a", 0}, {Word, "c", 4}, {End, "", 5}}}, {"a ; b", []T{{Word, "a", 0}, {End, "", 5}}}, {"#b1;1\n1;1\n\"\";\"", []T{{Number, "#b1", 0}, {Integer, "1", 6}, {Quoted, "", 10}, {End, "", 14}}},
		// Words.
		{"a", []T{{Word, "a", 0}, {End, "", 1}}}, {"z", []T{{Word, "z", 0}, {End, "", 1}}}, {"az-09", []T{{Word, "az-09", 0}, {End, "", 5}}}, {"a-", []T{{Word, "a-", 0}, {End, "", 2}}}, {"b--1", []T{{Word, "b--1", 0}, {End, "", 4}}}, {"x0", []T{{Word, "x0", 0}, {End, "", 2}}}, {"abcdefghijklmnop", []T{{Word, "abcdefghijklmnop", 0}, {End, "", 16}}}, {"a---------------", []T{{Word, "a---------------", 0}, {End, "", 16}}}, {" declare\n", []T{{Word, "declare", 1}, {End, "", 9}}},
		// Numbers.
		{"#b0", []T{{Number, "#b0", 0}, {End, "", 3}}}, {"#b1", []T{{Number, "#b1", 0}, {End, "", 3}}}, {"#b001", []T{{Number, "#b001", 0}, {End, "", 5}}}, {b64, []T{{Number, b64, 0}, {End, "", 66}}}, {"#x0", []T{{Number, "#x0", 0}, {End, "", 3}}}, {"#x9a", []T{{Number, "#x9a", 0}, {End, "", 4}}}, {"#xf", []T{{Number, "#xf", 0}, {End, "", 3}}}, {"#xb", []T{{Number, "#xb", 0}, {End, "", 3}}}, {x16, []T{{Number, x16, 0}, {End, "", 18}}}, {"#x0000000000000000", []T{{Number, "#x0000000000000000", 0}, {End, "", 18}}},
		// Integers.
		{"0", []T{{Integer, "0", 0}, {End, "", 1}}}, {"1", []T{{Integer, "1", 0}, {End, "", 1}}}, {"9", []T{{Integer, "9", 0}, {End, "", 1}}}, {"10", []T{{Integer, "10", 0}, {End, "", 2}}}, {"1099511627776", []T{{Integer, "1099511627776", 0}, {End, "", 13}}}, {"9999999999999", []T{{Integer, "9999999999999", 0}, {End, "", 13}}}, {"0 0", []T{{Integer, "0", 0}, {Integer, "0", 2}, {End, "", 3}}},
		// What may follow them.
		{"a\tb\nc\rd e", []T{{Word, "a", 0}, {Word, "b", 2}, {Word, "c", 4}, {Word, "d", 6}, {Word, "e", 8}, {End, "", 9}}}, {"a(b)c", []T{{Word, "a", 0}, {Open, "", 1}, {Word, "b", 2}, {Close, "", 3}, {Word, "c", 4}, {End, "", 5}}}, {"1(0)2\"\"3;", []T{{Integer, "1", 0}, {Open, "", 1}, {Integer, "0", 2}, {Close, "", 3}, {Integer, "2", 4}, {Quoted, "", 5}, {Integer, "3", 7}, {End, "", 9}}}, {"#b1(#b1)#b1\"\"#b1\t#xa", []T{{Number, "#b1", 0}, {Open, "", 3}, {Number, "#b1", 4}, {Close, "", 7}, {Number, "#b1", 8}, {Quoted, "", 11}, {Number, "#b1", 13}, {Number, "#xa", 17}, {End, "", 20}}}, {`a"b"c`, []T{{Word, "a", 0}, {Quoted, "b", 1}, {Word, "c", 4}, {End, "", 5}}},
		// Strings.
		{`""`, []T{{Quoted, "", 0}, {End, "", 2}}}, {`" "`, []T{{Quoted, " ", 0}, {End, "", 3}}}, {`"ab"`, []T{{Quoted, "ab", 0}, {End, "", 4}}}, {`"a b;(c)#'"`, []T{{Quoted, "a b;(c)#'", 0}, {End, "", 11}}}, {`"~!"`, []T{{Quoted, "~!", 0}, {End, "", 4}}}, {`"[]^"`, []T{{Quoted, "[]^", 0}, {End, "", 5}}}, {`"AZ"`, []T{{Quoted, "AZ", 0}, {End, "", 4}}},
		{`"\""`, []T{{Quoted, `"`, 0}, {End, "", 4}}}, {`"\\"`, []T{{Quoted, `\`, 0}, {End, "", 4}}}, {`"\\\\"`, []T{{Quoted, `\\`, 0}, {End, "", 6}}}, {`"\\x00"`, []T{{Quoted, `\x00`, 0}, {End, "", 7}}}, {`"\x5cx00"`, []T{{Quoted, `\x00`, 0}, {End, "", 9}}}, {`"\x00\xff"`, []T{{Quoted, "\x00\xff", 0}, {End, "", 10}}}, {`"\x61"`, []T{{Quoted, "a", 0}, {End, "", 6}}}, {`"\x22\x5c"`, []T{{Quoted, `"\`, 0}, {End, "", 10}}}, {`"\x0a0"`, []T{{Quoted, "\n0", 0}, {End, "", 7}}}, {`"\x9a\xa9"`, []T{{Quoted, "\x9a\xa9", 0}, {End, "", 10}}}, {`"xx41"`, []T{{Quoted, "xx41", 0}, {End, "", 6}}}, {`"\xc3\xa9"`, []T{{Quoted, "\u00e9", 0}, {End, "", 10}}},
		{`"""a""\""`, []T{{Quoted, "", 0}, {Quoted, "a", 2}, {Quoted, `"`, 5}, {End, "", 9}}}, {`"a"b"c"`, []T{{Quoted, "a", 0}, {Word, "b", 3}, {Quoted, "c", 4}, {End, "", 7}}}, {`""0""#b0`, []T{{Quoted, "", 0}, {Integer, "0", 2}, {Quoted, "", 3}, {Number, "#b0", 5}, {End, "", 8}}}, {"\"a\";\"", []T{{Quoted, "a", 0}, {End, "", 5}}}, {`(";")`, []T{{Open, "", 0}, {Quoted, ";", 1}, {Close, "", 4}, {End, "", 5}}},
		// The examples of the chapter.
		{"(not x-1)", []T{{Open, "", 0}, {Word, "not", 1}, {Word, "x-1", 5}, {Close, "", 8}, {End, "", 9}}}, {`"a\"\x00"`, []T{{Quoted, "a\"\x00", 0}, {End, "", 9}}}, {"#b01)", []T{{Number, "#b01", 0}, {Close, "", 4}, {End, "", 5}}},
	} {
		if got := tokens(t, x.s); !slices.Equal(got, x.want) {
			t.Errorf("%d: %q: %v, not %v", i, x.s, got, x.want)
		}
	}
}

// failing checks texts in which a ^, which is no part of them, stands ahead of the offset of the error.
func failing(t *testing.T, e api.Errno, texts ...string) {
	t.Helper()
	for _, marked := range texts {
		before, behind, ok := strings.Cut(marked, "^")
		if !ok {
			t.Fatalf("%q has no mark", marked)
		}
		fails(t, before+behind, len(before), e)
	}
}

// P9.1: bytes with which nothing begins.
func TestNothingBegins(t *testing.T) {
	failing(t, api.ErrForm, "^A", "^-", "^-1", "^-a", "^_", "^'a'", "^\\", "^\x00", "^\x0b", "^\x0c", "^\x1f", "^\x7f", "^\x80", "^\xa0", "^\xff", "^\u00e9", "^\u0131", "^\u2028", "^\U00010061", "^.", "^,", "^:", "^|", "^[", "^{", "^+", "^!", "^~", "^$", "^%",
		" ^A", "\t\n\r ^\x0b", ";\n^-", "a ^A", "(^-1)", ")^]", "\"\"^-", "\"\"^A", "\"a\"^\\", "0 ^-", "( ^' )", ";a\rb\n^_", "() ^[ \x00", "(a\n;b\n ^= c)", "\"a\" ^'", "^- \"", "^A \"", strings.Repeat("( ", 30000)+"^-")
}

// P9.1: words, Numbers and Integers that go on to something of another form.
func TestOtherForms(t *testing.T) {
	failing(t, api.ErrForm, "^#", "^#b", "^#x", "^##", "^#b2", "^#b02", "^#b12", "^#b0a", "^#b-", "^#b0-", "^#b#b0", "^#b0#", "^#xg", "^#x0g", "^#x-1", "^#x0-", "^#x0#x0", "^#xfg", "^#a", "^#a0", "^#0", "^#1", "^#o7", "^#-", "^#bb", "^#xx0", "^#b0x0", "^#x0z",
		"^00", "^01", "^000", "^0a", "^0-", "^0#", "^0x1", "^0b1", "^5a", "^5-", "^5#", "^1-2", "^12a3", "^1#b0", "^9z", "^1a(", "^00)",
		"^a#", "^a#b", "^a#b0", "^a-#", "^x#x0", "^abc#def", "^a1#",
		" ^01", "(^01)", "a ^01", "; 01\n^01", "\"\"^01", "\"\"^#b", "(^#b)", "( ^#x )", "0 ^00", "a(^5a", "#b0 ^#b2", "^#;", "^#\"b0\"", "^#b \"", "^#b(0)", "^5a\"", "^0a A",
		// A wrong form, and also too long, or with a byte behind that must not follow: the form is the error.
		"^#b"+strings.Repeat("0", 64)+"2", "^#b"+strings.Repeat("2", 65), "^#x"+strings.Repeat("0", 16)+"g", "^0"+strings.Repeat("0", 13), "^0"+strings.Repeat("1", 20), "^1"+strings.Repeat("0", 13)+"a", "^abcdefghijklmnopq#", "^#b0"+strings.Repeat("-", 70), "^01A", "^#b\x00", "^#b2\xff", "^5a_", "^a#\\", "^#'",
		"^0"+strings.Repeat("0", 65535), "^"+strings.Repeat("#", 65536))
}

// P9.1: bytes that must not follow a word, Number or Integer.
func TestMustNotFollow(t *testing.T) {
	failing(t, api.ErrForm, "a^A", "a^_", "a^'", "a^\\", "a^\x00", "a^\x0b", "a^\x7f", "a^\xff", "a^\u00e9", "abc^.", "a-^+", "a^,b", "a^[0]", "declare^D", "abcdefghijklmnop^Q",
		"0^A", "0^.5", "1^_000", "12^:", "1099511627776^.", "1^'", "1^\\",
		"#b0^A", "#b0^_", "#b01^\xff", "#xa^A", "#x0^B", "#xff^\x00", "#x0^.", "#b"+strings.Repeat("1", 64)+"^A", "#x"+strings.Repeat("f", 16)+"^F",
		"(a^A)", " a ; b\n c^A", "a b^C d#", "\"\"a^A", "a^A \"", "(not x^_1)", "0 1 2 3^/")
}

// P9.1: ErrName, for words that are too long.
func TestLongWords(t *testing.T) {
	failing(t, api.ErrName, "^abcdefghijklmnopq", "^a----------------", "^a0000000000000000", "^"+strings.Repeat("z", 65536), " ^abcdefghijklmnopq", "(^abcdefghijklmnopq)", "abcdefghijklmnop ^abcdefghijklmnopq", "\"\"^abcdefghijklmnopq\"", ";\n^abcdefghijklmnopq;", "^abcdefghijklmnopqA", "^abcdefghijklmnopq\x00", "^abcdefghijklmnopq A", "^abcdefghijklmnopq 01")
}

// P9.1: ErrLimit, for Numbers and Integers that are too long.
func TestLongNumbers(t *testing.T) {
	b65, x17, i14 := "#b"+strings.Repeat("0", 65), "#x"+strings.Repeat("f", 17), "1"+strings.Repeat("0", 13)
	for _, s := range []string{b65, "#b" + strings.Repeat("1", 1000), "#b" + strings.Repeat("1", 65534), x17, "#x" + strings.Repeat("0", 17), "#x" + strings.Repeat("1", 64), "#x" + strings.Repeat("1", 65), "#x" + strings.Repeat("a", 65534), i14, "99999999999999", strings.Repeat("9", 65536)} {
		failing(t, api.ErrLimit, "^"+s)
		if len(s) < 65000 {
			failing(t, api.ErrLimit, "(^"+s+")", " ;\n^"+s+" a", "a 0 #b0 ^"+s+";", "\"\"^"+s+"\"", "^"+s+"A", "^"+s+"\x00", "^"+s+" A", "^"+s+" 01", "^"+s+" \"")
		}
	}
}

// P9.1: ErrForm within quotation marks.
func TestWrongStrings(t *testing.T) {
	failing(t, api.ErrForm, "\"^\n\"", "\"a^\t\"", "\"^\x00\"", "\"^\x1f\"", "\"^\x7f\"", "\"^\x80\"", "\"^\xff\"", "\"^\u00e9\"", "\"ab^\r\n\"", "\" ^\n", "\"^\x7f",
		`"^\n"`, `"^\ "`, `"^\a"`, `"^\X00"`, `"^\0"`, `"^\'"`, `"a^\u0041"`, `"^\(`, `"\\^\a"`, `"\"^\t"`, "\"^\\\n\"", "\"^\\\x00", "\"^\\\xff\"", "\"^\\\u00e9\"",
		`"^\x"`, `"^\xg0"`, `"^\x0g"`, `"^\x0"`, `"^\x 0"`, `"^\x0 "`, `"^\x-1"`, `"^\xA0"`, `"^\x0A"`, `"^\xG`, `"^\x0G`, `"^\x\x00"`, `"^\x0\"`, "\"^\\x\n\"", "\"^\\x0\xff\"", "\"^\\x0\xff", `"\x00^\x0"`, `"ab\x41^\x4"`, "\"^\\xg", "\"^\\x0`0\"", `"^\x0/"`, `"^\x0:"`, `"^\x@0"`,
		"(\"a^\n\")", " \"^\\n\"", "a\"^\\n\"", "\"\"\"^\n\"", "\"a\" \"b^\\q\"", ";\"\n\"^\n\"", "\"^\n", "\"^\x00\\", "\"a^\\g\\x", "\"^\\g A", "\"a^\n\" A", "\""+strings.Repeat("a", 60000)+"^\x7f")
}

// P9.1: ErrMore, for texts that end within a string.
func TestMore(t *testing.T) {
	failing(t, api.ErrMore, `"^`, `"a^`, `"a b^`, `" ^`, `"\^`, `"\"^`, `"\\^`, `"\\\^`, `"\\\"^`, `"\x^`, `"\x0^`, `"\xf^`, `"\x00^`, `"\x00\^`, `"\x00\x^`, `"a\"b^`, `"a;^`, `"(^`, `""a"^`, `"""^`, `"a""^`, "(\"a)^", " \"^", "a\"^", "\"a\" \"b^", "a b ; \"\n\"^", "\"\\\"^", `"x^`, `"\x61^`, `"; \x6^`, "\""+strings.Repeat("a", 65535)+"^", strings.Repeat("(", 65535)+"\"^", "\""+strings.Repeat("a", 65534)+"\\^", "\""+strings.Repeat("a", 65533)+"\\x^", "\""+strings.Repeat("a", 65532)+"\\x0^")
}

// P9.1: the first of several places.
func TestFirstPlace(t *testing.T) {
	failing(t, api.ErrForm, "^01 abcdefghijklmnopq", "^A \"", "a^A \"\\", "\"^\n", "^- 01 \"", "^#b 99999999999999")
	failing(t, api.ErrName, "^abcdefghijklmnopq 01", "^abcdefghijklmnopq \"", "^abcdefghijklmnopq 99999999999999")
	failing(t, api.ErrLimit, "^99999999999999 abcdefghijklmnopq", "^99999999999999 01", "^99999999999999\"")
	failing(t, api.ErrMore, "\"01 abcdefghijklmnopq A 99999999999999^")
}

// P9.1: the greatest number of bytes, and more, which come before all other errors.
func TestLongTexts(t *testing.T) {
	most := 65536
	full := strings.Repeat("a ", most/2)
	got := tokens(t, full)
	for i, x := range got[:len(got)-1] {
		if x != (T{Word, "a", 2 * i}) {
			t.Fatal(i, x)
		}
	}
	if len(got) != most/2+1 || got[most/2] != (T{End, "", most}) {
		t.Error(len(got), got[len(got)-1])
	}
	if got := tokens(t, strings.Repeat("(", most)); len(got) != most+1 || got[most-1] != (T{Open, "", most - 1}) || got[most] != (T{End, "", most}) {
		t.Error(len(got))
	}
	a := strings.Repeat("a", most-2)
	for _, x := range []struct {
		s    string
		want []T
	}{
		{strings.Repeat(" ", most), []T{{End, "", most}}}, {";" + strings.Repeat("(", most-1), []T{{End, "", most}}}, {strings.Repeat(";\n", most/2), []T{{End, "", most}}}, {`"` + a + `"`, []T{{Quoted, a, 0}, {End, "", most}}}, {`"` + strings.Repeat(`\"`, most/2-1) + `"`, []T{{Quoted, strings.Repeat(`"`, most/2-1), 0}, {End, "", most}}},
	} {
		if got := tokens(t, x.s); !slices.Equal(got, x.want) {
			t.Errorf("%.20q: %d tokens", x.s, len(got))
		}
	}
	for _, s := range []string{full + " ", full + "\n", strings.Repeat("(", most+1), strings.Repeat(" ", most+1), ";" + full, strings.Repeat("A", most+1), strings.Repeat("\"", most+1), "\"" + full, "\"" + a + "\" ", strings.Repeat("z", most+1), strings.Repeat("9", most+1), "01" + full, "A" + full, "\"\n" + full, strings.Repeat("\x00", 1000000), full + "A", full + "\"", full + "\xff"} {
		fails(t, s, most, api.ErrLimit)
	}
	for _, s := range []string{full[1:] + "A", full[2:] + " A", full[2:] + "01"} {
		compare(t, s)
		if _, _, e := lexer.Tokens(s); e != api.ErrForm {
			t.Errorf("%.20q: %d", s, e)
		}
	}
}

// P9.1: each byte and each two bytes everywhere.
func TestEachByte(t *testing.T) {
	around := [][2]string{{"", ""}, {"", "a"}, {"a", ""}, {"a", "b"}, {"0", "1"}, {"1", ""}, {"#b0", ""}, {"#b", "1"}, {"#x9", "a"}, {"#", "0"}, {"(", ")"}, {")", ""}, {" ", " "}, {"\"", "\""}, {"\"", ""}, {"\"a\"", "\"b\""}, {"\"\\", "\""}, {"\"\\", ""}, {"\"\\x", "0\""}, {"\"\\x0", "\""}, {"\"\\x", ""}, {"\"\\x0", ""}, {";", ""}, {";", "\na"}, {";a\n", ""}, {"a-", "-"}}
	for _, x := range around {
		for _, c := range []byte(allBytes()) {
			one := string([]byte{c})
			compare(t, x[0]+one+x[1])
			for _, d := range []byte("aA01 -\"\\;()#bx\n\r\x00\x80\xff") {
				compare(t, x[0]+one+string([]byte{d})+x[1])
				compare(t, x[0]+string([]byte{d})+one+x[1])
			}
		}
	}
}

// P9.1: all short texts of a few bytes.
func TestShortTexts(t *testing.T) {
	for _, x := range []struct {
		alphabet string
		most     int
	}{{"ax1#\"\\; \n(-", 5}, {"\"\\x0ag", 7}, {"#bx01a", 7}, {"a0-#A ", 7}, {"();\n\ra", 6}} {
		var all func(s string, left int)
		all = func(s string, left int) {
			compare(t, s)
			if left == 0 {
				return
			}
			for i := range len(x.alphabet) {
				all(s+x.alphabet[i:i+1], left-1)
			}
		}
		all("", x.most)
	}
}

// P9.1: forms of all lengths.
func TestLengths(t *testing.T) {
	for n := range 80 {
		for _, s := range []string{"a" + strings.Repeat("b", n), "z" + strings.Repeat("-", n), "#b" + strings.Repeat("1", n), "#b" + strings.Repeat("0", n), "#x" + strings.Repeat("c", n), "#x" + strings.Repeat("0", n), strings.Repeat("0", n), strings.Repeat("7", n), "1" + strings.Repeat("0", n)} {
			for _, behind := range []string{"", " ", ")", "A", "#", "-", "g", "2", "\x80"} {
				compare(t, s+behind)
				compare(t, "(; "+s+"\n"+s+behind)
			}
		}
	}
}

// P9.1: texts that are right, and damaged ones.
func TestRandomTexts(t *testing.T) {
	r := random(1)
	for range 60000 {
		s := randomText(r, 8)
		tokens(t, s)
		compare(t, s)
		compare(t, damaged(r, s))
		compare(t, drawn(r, r.IntN(12), pick(r, allBytes(), "ab09-#xAF\"\\(); \n", "\"\\x0f", "#b01x ")))
	}
}

// P9.1: a text of many tokens, with all of their places.
func TestManyTokens(t *testing.T) {
	var s strings.Builder
	var want []T
	for i := 0; s.Len() < 65000; i++ {
		n := strconv.Itoa(i)
		want = append(want, T{Open, "", s.Len()}, T{Word, "n-" + n, s.Len() + 1}, T{Integer, n, s.Len() + 4 + len(n)}, T{Close, "", s.Len() + 4 + 2*len(n)})
		s.WriteString("(n-" + n + " " + n + ")\n")
	}
	want = append(want, T{End, "", s.Len()})
	if got := tokens(t, s.String()); !slices.Equal(got, want) {
		t.Errorf("%d tokens, not %d", len(got), len(want))
	}
}

// Results of two calls share no memory.
func TestSeparate(t *testing.T) {
	for _, s := range []string{"", "(a #b0 \"c\" 1)"} {
		first := tokens(t, s)
		before := slices.Clone(first)
		second := tokens(t, s)
		for i := range second[:cap(second)] {
			second[:cap(second)][i] = T{77, "scribbled", 77}
		}
		if third := tokens(t, s); !slices.Equal(first, before) || !slices.Equal(third, before) {
			t.Error(first, third, before)
		}
	}
}

// P9.4
func TestSpaces(t *testing.T) {
	r := random(4)
	for range 20000 {
		parts, gaps := randomParts(r, 8)
		var wide string
		if r.IntN(2) == 0 {
			wide = randomGap(r)
		}
		for i, p := range parts {
			switch {
			case !gaps[i] || r.IntN(3) == 0:
				wide += p
			case r.IntN(2) == 0:
				wide += p + randomGap(r)
			default:
				wide += randomGap(r) + p
			}
		}
		narrow := strings.Join(parts, "")
		if a, b := tokens(t, narrow), tokens(t, wide); !slices.Equal(bare(a), bare(b)) {
			t.Fatalf("%q: %v\n%q: %v", narrow, a, wide, b)
		}
	}
}

// P9.4: ahead of the first token, places grow by what was written.
func TestSpacesAhead(t *testing.T) {
	r := random(5)
	for range 5000 {
		s, gap := randomText(r, 6), randomGap(r)
		if a, b := tokens(t, s), tokens(t, gap+s); !slices.Equal(moved(a, len(gap)), b) {
			t.Fatalf("%q: %v\n%q: %v", s, a, gap+s, b)
		}
	}
}

// P9.5
func TestJoined(t *testing.T) {
	r := random(6)
	for i := range 20000 {
		s, u := randomText(r, 6), randomText(r, 6)
		if i%4 == 0 {
			s += ";" + drawn(r, r.IntN(6), "a(\"\\\r\x00")
		}
		a, b := tokens(t, s), tokens(t, u)
		want := append(a[:len(a)-1:len(a)-1], moved(b, len(s)+1)...)
		if got := tokens(t, s+"\n"+u); !slices.Equal(got, want) {
			t.Fatalf("%q, %q: %v, not %v", s, u, got, want)
		}
	}
}

// P9.6
func TestWritten(t *testing.T) {
	r := random(7)
	for range 20000 {
		s := randomText(r, 8)
		before := tokens(t, s)
		var text string
		for _, x := range before[:len(before)-1] {
			switch x.Kind {
			case Open:
				text += "("
			case Close:
				text += ")"
			case Quoted:
				q, e := lexer.Quote(x.Text)
				if e != api.OK {
					t.Fatal(e)
				}
				text += q
			default:
				if !strings.HasPrefix(s[x.At:], x.Text) {
					t.Fatalf("%q: %v", s, x)
				}
				text += x.Text
			}
			text += " "
		}
		if after := tokens(t, text); !slices.Equal(bare(after), bare(before)) {
			t.Fatalf("%q: %v\n%q: %v", s, before, text, after)
		}
	}
}
