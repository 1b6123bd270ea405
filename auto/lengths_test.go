package auto_test

import (
	"math"
	"math/rand/v2"
	"slices"
	"strings"
	"testing"

	"enthymeme/api"
	"enthymeme/auto"
)

// P5.6
func TestLeast(t *testing.T) {
	complement := func(s string) A { return must(t)(auto.Complement(of(t, s))) }
	for i, x := range []struct {
		a    A
		want string
		some bool
	}{
		{nothing, "", false}, {everything, "", true}, {circle(7), "", true}, {line(nil, 1, 2, 0), "", false}, {lastBytes(), "", false},
		{line([]int{1}, 0, 0), "", false}, {line([]int{2}, 1, 0, 2), "", false}, // nothing leads there
		{chain(2), "\x00", true}, {chain(65), strings.Repeat("\x00", 64), true}, {chain(66), strings.Repeat("\x00", 65), true}, {chain(256), strings.Repeat("\x00", 255), true},
		{lastBytes(0), "", true}, {lastBytes(1), "\x01", true}, {lastBytes(200), "\xc8", true}, {lastBytes(255), "\xff", true}, {lastBytes(255, 98, 254), "b", true},
		// The example of the chapter.
		{of(t, "'a'*"), "", true}, {complement("'a'*"), "\x00", true},
		{of(t, "'a'"), "a", true}, {of(t, "['x'-'z']"), "x", true}, {of(t, "['x'-'z']|['u'-'w']"), "u", true}, {of(t, "'a''b''c'"), "abc", true}, {of(t, "\\xff\\x80\\x00"), "\xff\x80\x00", true}, {of(t, "none"), "", false}, {of(t, "'a'&'b'"), "", false}, {of(t, "empty|'a'"), "", true},
		// The shorter one first, then byte by byte.
		{of(t, "'a''a'|'c'"), "c", true}, {of(t, "'a''a''a'|'z''z'"), "zz", true}, {of(t, "'b''a'|'a''b'"), "ab", true}, {of(t, "'b''a'|'a''z'"), "az", true}, {of(t, "'a''z''a'|'a''b''z'|'b''a''a'"), "abz", true}, {of(t, "'c''a'|'b''a'|'a''a''a'"), "ba", true}, {of(t, "'b''b'|'b''a'"), "ba", true}, {of(t, "'a''c'('x'|'w')|'a''d''a'"), "acw", true},
		{of(t, "(!none)'b''a'(!none)"), "ba", true}, {of(t, "['a'-'z']*&!(!none'a'!none|!empty&!(['a'-'z']['a'-'z']*))&!empty"), "b", true}, {of(t, "('a''a''a')*&('a''a')*&!empty"), "aaaaaa", true}, {of(t, "('a''b'|'b''a')*&!(('a''b')*)"), "ba", true}, {complement("empty|[\\x00-'p']|'q'"), "r", true}, {complement("[\\x00-\\xff]|empty"), "\x00\x00", true},
		// What leads to one state by several bytes begins with the least one.
		{A{Cuts: []int{0, 50, 60}, Next: [][]int{{0, 1, 1}, {1, 2, 2}, {2, 2, 2}}, Accept: []bool{false, false, true}}, "22", true},
		{A{Cuts: []int{0, 50, 60}, Next: [][]int{{0, 2, 1}, {3, 3, 3}, {2, 2, 3}, {3, 3, 3}}, Accept: []bool{false, false, false, true}}, "2<", true},
	} {
		before := copied(x.a)
		if s, some, e := auto.Least(x.a); s != x.want || some != x.some || e != api.OK {
			t.Errorf("%d: %q, %t, %d, not %q, %t", i, s, some, e, x.want, x.some)
		}
		if !same(before, x.a) {
			t.Errorf("%d: the automaton has become %v", i, x.a)
		}
	}
}

// P5.6: all strings in order, of bytes around the cuts.
func TestLeastAtRandom(t *testing.T) {
	r := rand.New(rand.NewPCG(5, 6))
	found, long := 0, 0
	for range 2000 {
		a := random(r, 5, 3)
		a.Accept = slices.Repeat([]bool{false}, len(a.Accept))
		a.Accept[r.IntN(len(a.Accept))] = r.IntN(10) > 0
		var bytes []byte
		for c := range 256 {
			if slices.Contains(a.Cuts, c) || slices.Contains(a.Cuts, c+1) {
				bytes = append(bytes, byte(c))
			}
		}
		want, some := first(a, bytes)
		if s, ok, e := auto.Least(a); s != want || ok != some || e != api.OK {
			t.Fatalf("%v: %q, %t, %d, not %q, %t", a, s, ok, e, want, some)
		}
		if some {
			found++
		}
		if len(want) > 1 {
			long++
		}
	}
	if found < 800 || long < 100 {
		t.Errorf("%d with strings, %d with long ones", found, long)
	}
}

// first returns the first string of some bytes, in increasing order, that an automaton accepts: no state needs more bytes than there are others.
func first(a A, bytes []byte) (string, bool) {
	texts := []string{""}
	for range a.Next {
		var longer []string
		for _, s := range texts {
			if takes(a, 0, s) {
				return s, true
			}
			for _, c := range bytes {
				longer = append(longer, s+string([]byte{c}))
			}
		}
		texts = longer
	}
	return "", false
}

// P5.7
func TestLeft(t *testing.T) {
	words := of(t, "'a''b'|'a''b''c''d'|'a'")
	after := func(s string) int {
		n, e := auto.Run(words, s)
		if e != api.OK {
			t.Fatal(e)
		}
		return n
	}
	branch := A{Cuts: []int{0, 9, 10}, Next: [][]int{{1, 2, 1}, {1, 1, 1}, {1, 0, 3}, {3, 3, 2}}, Accept: []bool{false, false, false, true}}
	for i, x := range []struct {
		a     A
		state int
		want  string // 1 for each number of bytes that leads to acceptance
	}{
		{nothing, 0, "0"}, {everything, 0, "1"}, {nothing, 0, "0000"}, {everything, 0, "1111"}, {nothing, 0, strings.Repeat("0", 65)}, {everything, 0, strings.Repeat("1", 65)},
		{circle(3), 0, "1001001"}, {circle(3), 1, "0010010"}, {circle(3), 2, "0100100"}, {circle(3), 2, "0"}, {circle(3), 0, "1"}, {circle(64), 0, "1" + strings.Repeat("0", 63) + "1"}, {circle(64), 63, "01" + strings.Repeat("0", 63)}, {circle(256), 255, "01000"}, {circle(256), 192, strings.Repeat("0", 64) + "1"}, {circle(256), 191, strings.Repeat("0", 65)},
		{chain(3), 0, "00111"}, {chain(3), 1, "0111"}, {chain(3), 2, "111"}, {chain(256), 255, "1"}, {chain(65), 0, strings.Repeat("0", 64) + "1"},
		{words, 0, "011010"}, {words, after("a"), "110100"}, {words, after("ab"), "101000"}, {words, after("abc"), "010000"}, {words, after("abcd"), "100000"}, {words, after("b"), "000000"},
		{branch, 0, "001111"}, {branch, 1, "000"}, {branch, 2, "01111"}, {branch, 3, "11111"},
		{line([]int{1}, 0, 0), 0, "00000"}, {line([]int{1}, 0, 0), 1, "10000"}, {line([]int{1}, 0, 2, 1), 2, "01010"}, // states that nothing reaches
		{lastBytes(7), 0, "01"}, {lastBytes(7), 7, "11"}, {lastBytes(), 7, "00"}, {lastBytes(255), 255, strings.Repeat("1", 65)},
	} {
		before := copied(x.a)
		most := len(x.want) - 1
		got, e := auto.Left(x.a, x.state, most)
		if digits(got) != x.want || e != api.OK {
			t.Errorf("%d: %s, %d, not %s", i, digits(got), e, x.want)
		}
		if x.state == 0 {
			if got, e := auto.Lengths(x.a, most); digits(got) != x.want || e != api.OK {
				t.Errorf("%d: Lengths: %s, %d, not %s", i, digits(got), e, x.want)
			}
		}
		if !same(before, x.a) {
			t.Errorf("%d: the automaton has become %v", i, x.a)
		}
	}
	// The example of the chapter.
	if got, e := auto.Lengths(of(t, "'a'*"), 64); digits(got) != strings.Repeat("1", 65) || e != api.OK {
		t.Errorf("'a'*: %s, %d", digits(got), e)
	}
}

// digits writes truth values.
func digits(l []bool) string {
	var b strings.Builder
	for _, is := range l {
		if is {
			b.WriteByte('1')
		} else {
			b.WriteByte('0')
		}
	}
	return b.String()
}

// P5.7: the state is examined before the number.
func TestLeftErrors(t *testing.T) {
	for i, x := range []struct {
		a           A
		state, most int
		want        api.Errno
	}{
		{nothing, -1, 0, api.ErrNone}, {nothing, 1, 0, api.ErrNone}, {circle(2), 2, 5, api.ErrNone}, {circle(256), 256, 64, api.ErrNone}, {nothing, math.MaxInt, 1, api.ErrNone}, {nothing, math.MinInt, 1, api.ErrNone},
		{nothing, -1, -1, api.ErrNone}, {nothing, 1, 65, api.ErrNone}, {nothing, math.MinInt, math.MaxInt, api.ErrNone},
		{nothing, 0, -1, api.ErrRange}, {nothing, 0, 65, api.ErrRange}, {nothing, 0, math.MaxInt, api.ErrRange}, {nothing, 0, math.MinInt, api.ErrRange}, {circle(256), 255, 65, api.ErrRange}, {everything, 0, 1000, api.ErrRange},
	} {
		if l, e := auto.Left(x.a, x.state, x.most); len(l) != 0 || e != x.want {
			t.Errorf("%d: Left is %v, %d, not %d", i, l, e, x.want)
		}
		if x.want == api.ErrRange {
			if l, e := auto.Lengths(x.a, x.most); len(l) != 0 || e != x.want {
				t.Errorf("%d: Lengths is %v, %d", i, l, e)
			}
		}
	}
}

// P5.7 and P5.11, against the chapter's words.
func TestLeftAtRandom(t *testing.T) {
	r := rand.New(rand.NewPCG(5, 7))
	for range 1000 {
		a := random(r, 12, 5)
		most := r.IntN(65)
		want := slices.Clone(a.Accept) // for each state, whether n bytes lead to acceptance
		left := make([]string, len(a.Next))
		for n := range most + 1 {
			if n > 0 {
				before := slices.Clone(want)
				for s := range want {
					want[s] = slices.ContainsFunc(a.Next[s], func(next int) bool { return before[next] })
				}
			}
			for s := range left {
				left[s] += digits(want[s : s+1])
			}
		}
		for s := range left {
			if got, e := auto.Left(a, s, most); digits(got) != left[s] || e != api.OK {
				t.Fatalf("%v from %d: %s, %d, not %s", a, s, digits(got), e, left[s])
			}
		}
		if got, e := auto.Lengths(a, most); digits(got) != left[0] || e != api.OK {
			t.Fatalf("%v: %s, %d, not %s", a, digits(got), e, left[0])
		}
	}
}

// P5.7: all strings of a few bytes.
func TestLengthsOfStrings(t *testing.T) {
	r := rand.New(rand.NewPCG(5, 77))
	for range 300 {
		a := random(r, 6, 3)
		from := r.IntN(len(a.Next))
		got, e := auto.Left(a, from, 5)
		if e != api.OK {
			t.Fatal(e)
		}
		texts := []string{""}
		for n := range 6 {
			if want := slices.ContainsFunc(texts, func(s string) bool { return takes(a, from, s) }); got[n] != want {
				t.Fatalf("%v from %d: %s, but %d bytes: %t", a, from, digits(got), n, want)
			}
			var longer []string
			for _, s := range texts {
				for _, c := range a.Cuts {
					longer = append(longer, s+string([]byte{byte(c)}))
				}
			}
			texts = longer
		}
	}
}

// P5.11
func TestLeastLength(t *testing.T) {
	r := rand.New(rand.NewPCG(5, 111))
	for i := range 1000 {
		a := random(r, 12, 5)
		if i%4 == 0 {
			a = line([]int{r.IntN(100)}, nexts(chain(100))...)
		}
		s, some, e := auto.Least(a)
		lengths, f := auto.Lengths(a, 64)
		if e != api.OK || f != api.OK {
			t.Fatalf("errors %d and %d", e, f)
		}
		want := -1
		if some && len(s) <= 64 {
			want = len(s)
		}
		if got := slices.Index(lengths, true); got != want {
			t.Fatalf("%v: %q, %t, but %d", a, s, some, got)
		}
		if some && !takes(a, 0, s) {
			t.Fatalf("%v does not accept %q", a, s)
		}
	}
}
