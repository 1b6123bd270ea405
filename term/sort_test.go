package term_test

import (
	"math"
	"strings"
	"testing"

	"enthymeme/api"
	"enthymeme/term"
)

// The example of the chapter.
func TestExample(t *testing.T) {
	g := graph(t, variable("x", bv(8)))
	h, number, e := term.Add(g, op(api.Not, 0))
	if number != 1 || e != api.OK {
		t.Fatalf("Not of 0 is %d, %d", number, e)
	}
	again, number, e := term.Add(h, op(api.Not, 0))
	if number != 1 || e != api.OK || !alike(again, h) {
		t.Fatalf("Not of 0 again is %d, %d in %v", number, e, again)
	}
	if s, e := term.SortOf(h, op(api.Concat, 0, 1)); s != bv(16) || e != api.OK {
		t.Errorf("Concat has the sort %v, %d", s, e)
	}
	if s, e := term.SortOf(h, sized(api.Extract, 8, 0, 0)); s != (S{}) || e != api.ErrRange {
		t.Errorf("Extract up to bit 8 has the sort %v, %d", s, e)
	}
	h, _, _ = term.Add(h, variable("y", bv(7)))
	if s, e := term.SortOf(h, op(api.And, 0, 2)); s != (S{}) || e != api.ErrSort {
		t.Errorf("And of 8 and 7 bits has the sort %v, %d", s, e)
	}
}

// kidGraph has a variable for each sort that the tables of tests name by these numbers.
const (
	bit = iota
	six
	seven
	eight
	thirty
	wide // 64
	none // a string of 0 octets
	five
	sixty
	long // 64
	octets
	bools
	lists
	big
)

func kidGraph() G {
	return variables([]S{bv(1), bv(6), bv(7), bv(8), bv(30), bv(64), str(0), str(5), str(60), str(64), arr(8, 7), arr(1, 8), ars(5, 1), ars(64, 16)})
}

// P7.1: the table of the chapter, operation by operation, at its edges.
func TestSortOf(t *testing.T) {
	g := kidGraph()
	text64 := strings.Repeat("\x00", 64)
	for i, x := range []struct {
		n    N
		want S
		e    api.Errno
	}{
		{variable("a", bv(1)), bv(1), api.OK}, {variable("abcdefghijklmnop", bv(64)), bv(64), api.OK}, {variable("z-", str(0)), str(0), api.OK}, {variable("a0-9", str(64)), str(64), api.OK}, {variable("a", arr(64, 16)), arr(64, 16), api.OK}, {variable("a", ars(0, 1)), ars(0, 1), api.OK},
		{variable("v1", bv(6)), bv(6), api.OK}, {variable("v1", bv(7)), S{}, api.ErrTwice}, {variable("v0", str(1)), S{}, api.ErrTwice}, {variable("v13", ars(64, 15)), S{}, api.ErrTwice}, {variable("v14", bv(7)), bv(7), api.OK},
		{num(0, 1), bv(1), api.OK}, {num(1, 1), bv(1), api.OK}, {num(2, 1), S{}, api.ErrRange}, {num(255, 8), bv(8), api.OK}, {num(256, 8), S{}, api.ErrRange}, {num(1<<63-1, 63), bv(63), api.OK}, {num(1<<63, 63), S{}, api.ErrRange}, {num(math.MaxUint64, 64), bv(64), api.OK}, {num(math.MaxUint64, 1), S{}, api.ErrRange},
		{N{Op: api.Num, Sort: str(5)}, S{}, api.ErrSort}, {N{Op: api.Num, Sort: arr(1, 1)}, S{}, api.ErrSort}, {N{Op: api.Num, Sort: ars(1, 1)}, S{}, api.ErrSort},
		{N{Op: api.Text}, str(0), api.OK}, {N{Op: api.Text, Text: "a\xff"}, str(2), api.OK}, {N{Op: api.Text, Text: "ü"}, str(2), api.OK}, {N{Op: api.Text, Text: text64}, str(64), api.OK}, {N{Op: api.Text, Text: text64 + "a"}, S{}, api.ErrRange}, {sorted(N{Op: api.Text, Text: "a"}, bv(99)), str(1), api.OK},
		{N{Op: api.Zero, Sort: arr(1, 16)}, arr(1, 16), api.OK}, {N{Op: api.Zero, Sort: ars(0, 1)}, ars(0, 1), api.OK}, {N{Op: api.Zero, Sort: bv(1)}, S{}, api.ErrSort}, {N{Op: api.Zero, Sort: str(1)}, S{}, api.ErrSort}, {N{Op: api.Zero, Sort: arr(1, 17)}, S{}, api.ErrSort},

		{op(api.Not, bit), bv(1), api.OK}, {op(api.Not, wide), bv(64), api.OK}, {op(api.Neg, seven), bv(7), api.OK}, {op(api.Not, five), S{}, api.ErrSort}, {op(api.Neg, octets), S{}, api.ErrSort}, {op(api.Neg, lists), S{}, api.ErrSort},
		{op(api.And, eight, eight), bv(8), api.OK}, {op(api.Or, bit, bit), bv(1), api.OK}, {op(api.Xor, wide, wide), bv(64), api.OK}, {op(api.Add, six, six), bv(6), api.OK}, {op(api.Mul, seven, seven), bv(7), api.OK}, {op(api.Udiv, eight, eight), bv(8), api.OK}, {op(api.Urem, eight, eight), bv(8), api.OK}, {op(api.Shl, eight, eight), bv(8), api.OK}, {op(api.Lshr, eight, eight), bv(8), api.OK}, {op(api.Ashr, eight, eight), bv(8), api.OK},
		{op(api.And, eight, seven), S{}, api.ErrSort}, {op(api.Shl, eight, bit), S{}, api.ErrSort}, {op(api.Or, five, five), S{}, api.ErrSort}, {op(api.Ashr, octets, octets), S{}, api.ErrSort}, {op(api.Xor, lists, lists), S{}, api.ErrSort}, {op(api.Add, eight, octets), S{}, api.ErrSort},
		{op(api.Ult, eight, eight), bv(1), api.OK}, {op(api.Slt, wide, wide), bv(1), api.OK}, {op(api.Ult, eight, seven), S{}, api.ErrSort}, {op(api.Slt, five, five), S{}, api.ErrSort},
		{op(api.Eq, eight, eight), bv(1), api.OK}, {op(api.Eq, none, long), bv(1), api.OK}, {op(api.Eq, octets, octets), bv(1), api.OK}, {op(api.Eq, lists, lists), bv(1), api.OK}, {op(api.Eq, eight, seven), S{}, api.ErrSort}, {op(api.Eq, octets, bools), S{}, api.ErrSort}, {op(api.Eq, lists, big), S{}, api.ErrSort}, {op(api.Eq, five, lists), S{}, api.ErrSort}, {op(api.Eq, eight, five), S{}, api.ErrSort}, {op(api.Eq, five, eight), S{}, api.ErrSort},
		{op(api.Ite, bit, eight, eight), bv(8), api.OK}, {op(api.Ite, bit, bit, bit), bv(1), api.OK}, {op(api.Ite, bit, octets, octets), arr(8, 7), api.OK}, {op(api.Ite, bit, lists, lists), ars(5, 1), api.OK}, {op(api.Ite, bit, five, five), str(5), api.OK}, {op(api.Ite, bit, five, sixty), str(60), api.OK}, {op(api.Ite, bit, sixty, five), str(60), api.OK}, {op(api.Ite, bit, none, five), str(5), api.OK},
		{op(api.Ite, six, eight, eight), S{}, api.ErrSort}, {op(api.Ite, five, eight, eight), S{}, api.ErrSort}, {op(api.Ite, bit, eight, seven), S{}, api.ErrSort}, {op(api.Ite, bit, five, eight), S{}, api.ErrSort}, {op(api.Ite, bit, lists, big), S{}, api.ErrSort}, {op(api.Ite, bit, octets, bools), S{}, api.ErrSort},

		{op(api.Concat, eight, seven), bv(15), api.OK}, {op(api.Concat, bit, bit), bv(2), api.OK}, {op(api.Concat, wide, bit), S{}, api.ErrRange}, {op(api.Concat, bit, wide), S{}, api.ErrRange}, {op(api.Concat, wide, wide), S{}, api.ErrRange}, {op(api.Concat, eight, five), S{}, api.ErrSort}, {op(api.Concat, five, eight), S{}, api.ErrSort},
		{sized(api.Extract, 7, 0, eight), bv(8), api.OK}, {sized(api.Extract, 7, 7, eight), bv(1), api.OK}, {sized(api.Extract, 0, 0, bit), bv(1), api.OK}, {sized(api.Extract, 5, 2, eight), bv(4), api.OK}, {sized(api.Extract, 63, 1, wide), bv(63), api.OK},
		{sized(api.Extract, 8, 0, eight), S{}, api.ErrRange}, {sized(api.Extract, 2, 3, eight), S{}, api.ErrRange}, {sized(api.Extract, 2, -1, eight), S{}, api.ErrRange}, {sized(api.Extract, -1, -1, eight), S{}, api.ErrRange}, {sized(api.Extract, math.MaxInt, 0, wide), S{}, api.ErrRange}, {sized(api.Extract, 7, math.MinInt, wide), S{}, api.ErrRange}, {sized(api.Extract, 0, 0, five), S{}, api.ErrSort}, {sized(api.Extract, 0, 0, octets), S{}, api.ErrSort},
		{sized(api.Zext, 1, 0, bit), bv(2), api.OK}, {sized(api.Sext, 56, 0, eight), bv(64), api.OK}, {sized(api.Zext, 63, 0, bit), bv(64), api.OK}, {sized(api.Zext, 0, 0, bit), S{}, api.ErrRange}, {sized(api.Sext, 57, 0, eight), S{}, api.ErrRange}, {sized(api.Sext, -1, 0, eight), S{}, api.ErrRange}, {sized(api.Zext, 1, 0, wide), S{}, api.ErrRange}, {sized(api.Zext, math.MaxInt, 0, eight), S{}, api.ErrRange}, {sized(api.Sext, math.MinInt, 0, eight), S{}, api.ErrRange}, {sized(api.Zext, 1, 0, five), S{}, api.ErrSort}, {sized(api.Sext, 1, 0, lists), S{}, api.ErrSort},

		{op(api.Select, octets, seven), bv(8), api.OK}, {op(api.Select, bools, eight), bv(1), api.OK}, {op(api.Select, lists, bit), str(5), api.OK}, {op(api.Select, octets, eight), S{}, api.ErrSort}, {op(api.Select, lists, five), S{}, api.ErrSort}, {op(api.Select, eight, eight), S{}, api.ErrSort}, {op(api.Select, five, bit), S{}, api.ErrSort},
		{op(api.Store, octets, seven, eight), arr(8, 7), api.OK}, {op(api.Store, bools, eight, bit), arr(1, 8), api.OK}, {op(api.Store, lists, bit, five), ars(5, 1), api.OK}, {op(api.Store, lists, bit, none), ars(5, 1), api.OK}, {op(api.Store, lists, bit, sixty), S{}, api.ErrSort}, {op(api.Store, lists, bit, bit), S{}, api.ErrSort}, {op(api.Store, octets, seven, seven), S{}, api.ErrSort}, {op(api.Store, octets, seven, five), S{}, api.ErrSort}, {op(api.Store, octets, eight, eight), S{}, api.ErrSort}, {op(api.Store, lists, seven, five), S{}, api.ErrSort}, {op(api.Store, eight, eight, eight), S{}, api.ErrSort}, {op(api.Store, five, bit, none), S{}, api.ErrSort}, {op(api.Store, octets, seven, octets), S{}, api.ErrSort},
		{op(api.Diff, octets, octets), bv(7), api.OK}, {op(api.Diff, lists, lists), bv(1), api.OK}, {op(api.Diff, big, big), bv(16), api.OK}, {op(api.Diff, lists, big), S{}, api.ErrSort}, {op(api.Diff, octets, bools), S{}, api.ErrSort}, {op(api.Diff, eight, eight), S{}, api.ErrSort}, {op(api.Diff, five, five), S{}, api.ErrSort},

		{op(api.Len, none), bv(7), api.OK}, {op(api.Len, long), bv(7), api.OK}, {op(api.Len, eight), S{}, api.ErrSort}, {op(api.Len, lists), S{}, api.ErrSort},
		{sized(api.Byte, 0, 0, none), bv(8), api.OK}, {sized(api.Byte, 63, 0, five), bv(8), api.OK}, {sized(api.Byte, 64, 0, long), S{}, api.ErrRange}, {sized(api.Byte, -1, 0, long), S{}, api.ErrRange}, {sized(api.Byte, 0, 0, eight), S{}, api.ErrSort}, {sized(api.Byte, 0, 0, lists), S{}, api.ErrSort},
		{op(api.Cat, five, five), str(10), api.OK}, {op(api.Cat, none, long), str(64), api.OK}, {op(api.Cat, none, none), str(0), api.OK}, {op(api.Cat, five, sixty), S{}, api.ErrRange}, {op(api.Cat, sixty, five), S{}, api.ErrRange}, {op(api.Cat, five, eight), S{}, api.ErrSort}, {op(api.Cat, eight, five), S{}, api.ErrSort},
		{op(api.Sub, five, seven, seven), str(5), api.OK}, {op(api.Sub, long, seven, seven), str(64), api.OK}, {op(api.Sub, five, six, seven), S{}, api.ErrSort}, {op(api.Sub, five, seven, eight), S{}, api.ErrSort}, {op(api.Sub, seven, seven, seven), S{}, api.ErrSort}, {op(api.Sub, five, five, seven), S{}, api.ErrSort}, {op(api.Sub, lists, seven, seven), S{}, api.ErrSort},
		{op(api.Find, none, long), bv(7), api.OK}, {op(api.Find, five, five), bv(7), api.OK}, {op(api.Find, eight, five), S{}, api.ErrSort}, {op(api.Find, five, eight), S{}, api.ErrSort},
		{op(api.Replace, five, long, five), str(10), api.OK}, {op(api.Replace, none, none, long), str(64), api.OK}, {op(api.Replace, five, none, sixty), S{}, api.ErrRange}, {op(api.Replace, sixty, none, five), S{}, api.ErrRange}, {op(api.Replace, eight, five, five), S{}, api.ErrSort}, {op(api.Replace, five, eight, five), S{}, api.ErrSort}, {op(api.Replace, five, five, eight), S{}, api.ErrSort},
		{N{Op: api.In, Text: "'a'", Kids: []int{five}}, bv(1), api.OK}, {N{Op: api.In, Text: "none", Kids: []int{long}}, bv(1), api.OK}, {N{Op: api.In, Text: "'a'", Kids: []int{eight}}, S{}, api.ErrSort}, {N{Op: api.In, Text: "'a'", Kids: []int{lists}}, S{}, api.ErrSort}, {N{Op: api.In, Kids: []int{five}}, S{}, api.ErrForm},
		{op(api.Char, eight), str(1), api.OK}, {op(api.Char, seven), S{}, api.ErrSort}, {op(api.Char, five), S{}, api.ErrSort}, {op(api.Char, octets), S{}, api.ErrSort},
	} {
		if s, e := term.SortOf(g, x.n); s != x.want || e != x.e {
			t.Errorf("%d: %s %v has the sort %v, %d, not %v, %d", i, operations[x.n.Op], x.n, s, e, x.want, x.e)
		}
	}
}

// P7.1: no such operation, wrong kids, and fields that an operation does not have.
func TestShape(t *testing.T) {
	g := kidGraph()
	good := map[string]N{
		"var": variable("a", bv(8)), "num": num(1, 8), "text": {Op: api.Text, Text: "a"}, "zero": {Op: api.Zero, Sort: arr(8, 1)},
		"ite": op(api.Ite, bit, eight, eight), "extract": sized(api.Extract, 3, 1, eight), "zext": sized(api.Zext, 3, 0, eight), "sext": sized(api.Sext, 3, 0, eight),
		"select": op(api.Select, octets, seven), "store": op(api.Store, octets, seven, eight), "diff": op(api.Diff, octets, octets), "len": op(api.Len, five), "byte": sized(api.Byte, 3, 0, five),
		"cat": op(api.Cat, five, five), "sub": op(api.Sub, five, seven, seven), "find": op(api.Find, five, five), "replace": op(api.Replace, five, five, five), "in": {Op: api.In, Text: "'a'", Kids: []int{five}},
	}
	for o, word := range operations {
		n, found := good[word]
		if !found {
			n = op(o, eight, eight)
			n.Kids = n.Kids[:rows[word].kids]
		}
		fails := func(what string, change func(n *N)) {
			t.Helper()
			m := n
			m.Kids = append([]int(nil), n.Kids...)
			change(&m)
			if s, e := term.SortOf(g, m); s != (S{}) || e != api.ErrArg {
				t.Errorf("%s with %s: %v, %d", word, what, s, e)
			}
		}
		if _, e := term.SortOf(g, n); e != api.OK {
			t.Fatalf("%s: error %d", word, e)
		}
		fails("a kid more", func(n *N) { n.Kids = append(n.Kids, eight) })
		for k := range n.Kids {
			fails("a kid less", func(n *N) { n.Kids = n.Kids[1:] })
			for _, kid := range []int{-1, len(g.Nodes), math.MinInt, math.MaxInt} {
				fails("a kid that is no node", func(n *N) { n.Kids[k] = kid })
			}
		}
		fields := rows[word].fields
		if !strings.Contains(fields, "N") {
			fails("N", func(n *N) { n.N = 1 })
			fails("N", func(n *N) { n.N = -1 })
		}
		if !strings.Contains(fields, "M") {
			fails("M", func(n *N) { n.M = 1 })
			fails("M", func(n *N) { n.M = -1 })
		}
		if !strings.Contains(fields, "U") {
			fails("U", func(n *N) { n.U = 1 })
		}
		if !strings.Contains(fields, "T") {
			fails("Text", func(n *N) { n.Text = "a" })
			fails("Text", func(n *N) { n.Text = "\x00" })
		}
	}
	for _, o := range []int{-1, len(operations), len(operations) + 1, math.MinInt, math.MaxInt} {
		for k := range 4 {
			if s, e := term.SortOf(g, N{Op: o, Kids: []int{eight, eight, eight}[:k], Sort: bv(8)}); s != (S{}) || e != api.ErrArg {
				t.Errorf("operation %d: %v, %d", o, s, e)
			}
		}
	}
}

// P7.1: of several errors the first one.
func TestErrorsInOrder(t *testing.T) {
	g := kidGraph()
	long65 := strings.Repeat("a", 65)
	for i, x := range []struct {
		n N
		e api.Errno
	}{
		// ErrArg ahead of all others.
		{N{Op: api.Var, Text: "A", U: 1}, api.ErrArg}, {N{Op: api.Var, Text: "v1", N: 1, Sort: bv(99)}, api.ErrArg}, {N{Op: api.Num, Text: "a", U: 9, Sort: bv(1)}, api.ErrArg}, {N{Op: api.Zero, U: 1, Sort: bv(99)}, api.ErrArg}, {N{Op: api.Text, Text: long65, M: 1}, api.ErrArg}, {sized(api.Extract, 99, 0, five, five), api.ErrArg}, {op(api.And, five, 99), api.ErrArg}, {op(api.Cat, eight, -1), api.ErrArg}, {N{Op: api.In, Text: "?", N: 1, Kids: []int{eight}}, api.ErrArg},
		// ErrName ahead of the sort.
		{variable("", bv(0)), api.ErrName}, {variable("A", bv(65)), api.ErrName}, {variable("-", S{Kind: 9}), api.ErrName},
		// The sort ahead of the range, and of the name that is there.
		{N{Op: api.Num, U: 9, Sort: bv(0)}, api.ErrSort}, {N{Op: api.Num, U: math.MaxUint64, Sort: str(1)}, api.ErrSort}, {sized(api.Extract, 99, 0, five), api.ErrSort}, {sized(api.Zext, -1, 0, octets), api.ErrSort}, {sized(api.Byte, 64, 0, lists), api.ErrSort}, {op(api.Replace, sixty, eight, sixty), api.ErrSort}, {variable("v1", bv(65)), api.ErrSort}, {variable("v1", S{Kind: -1}), api.ErrSort},
		// The sort ahead of the form.
		{N{Op: api.In, Text: "?", Kids: []int{eight}}, api.ErrSort}, {N{Op: api.In, Text: strings.Repeat(" ", 5000), Kids: []int{five}}, api.ErrForm},
		// The name that is there comes last.
		{variable("v1", bv(64)), api.ErrTwice},
	} {
		if s, e := term.SortOf(g, x.n); s != (S{}) || e != x.e {
			t.Errorf("%d: %v, %d, not %d", i, s, e, x.e)
		}
	}
}

// P7.1: names.
func TestNames(t *testing.T) {
	names := []string{"", "a", "z", "a0", "a9", "a-", "a--", "-a", "0a", "A", "aA", "a_", "a b", " a", "a ", "a\x00", "a\n", "ä", "aä", "a\xff", "\xff", "abcdefghijklmnop", "abcdefghijklmnopq", "a234567890123456", "a2345678901234567", strings.Repeat("a", 1000), "a/", "a:", "a`", "a{", "`", "{", "a.b"}
	for c := range 256 {
		names = append(names, string([]byte{byte(c)}), string([]byte{'a', byte(c)}), string([]byte{'a', byte(c), 'b'}))
	}
	for _, s := range names {
		want := api.OK
		if !isName(s) {
			want = api.ErrName
		}
		if _, e := term.SortOf(G{}, variable(s, bv(8))); e != want {
			t.Errorf("%q: %d, not %d", s, e, want)
		}
	}
}

// P7.1: texts of regular expressions.
func TestNormalTexts(t *testing.T) {
	g := kidGraph()
	for s, want := range map[string]api.Errno{
		"none": api.OK, "empty": api.OK, "'a'": api.OK, "\\x00": api.OK, "['a'-'b']": api.OK, "!none": api.OK, "!'a'": api.OK, "'a'*": api.OK, "'a''b'": api.OK, "'a'|'b'": api.OK, "!'a'&!'b'": api.OK, "('a'|'b')*": api.OK, "\\x0a none": api.ErrForm,
		// No texts.
		"": api.ErrForm, " ": api.ErrForm, "a": api.ErrForm, "'a": api.ErrForm, "['b'-'a']": api.ErrForm, "'a'|": api.ErrForm, "\\x0A": api.ErrForm, "'a')": api.ErrForm,
		// Texts of expressions in normal form, written otherwise.
		" 'a'": api.ErrForm, "'a' ": api.ErrForm, "'a' 'b'": api.ErrForm, "('a')": api.ErrForm, "\\x61": api.ErrForm, "['a'-'a']": api.ErrForm, "alt('a','b')": api.ErrForm, "cat('a','b')": api.ErrForm, "['a' - 'b']": api.ErrForm,
		// Other expressions.
		"'b'|'a'": api.ErrForm, "'a'|'a'": api.ErrForm, "!!'a'": api.ErrForm, "'a'**": api.ErrForm, "cat()": api.ErrForm, "all()": api.ErrForm, "alt()": api.ErrForm, "none*": api.ErrForm, "'a'empty": api.ErrForm, "'a'|none": api.ErrForm, "'a'|('b'|'c')": api.ErrForm, "'a'&!none": api.ErrForm,
		// 64 nodes, 65, and 64 with a normal form of 127; more octets than a text can have.
		strings.Repeat("'a'", 63): api.OK, strings.Repeat("'a'", 64): api.ErrForm, strings.Repeat("all()", 63): api.ErrForm, "'a'" + strings.Repeat(" ", 4093): api.ErrForm, "'a'" + strings.Repeat(" ", 4094): api.ErrForm,
	} {
		if _, e := term.SortOf(g, N{Op: api.In, Text: s, Kids: []int{five}}); e != want {
			t.Errorf("%q: %d, not %d", s, e, want)
		}
	}
}

// P7.1: Var, Num and Zero with sorts of all kinds, valid or not.
func TestOwnSorts(t *testing.T) {
	for kind := -1; kind <= 4; kind++ {
		for _, n := range []int{math.MinInt, -1, 0, 1, 63, 64, 65, math.MaxInt} {
			for _, index := range []int{math.MinInt, -1, 0, 1, 16, 17, math.MaxInt} {
				s := S{Kind: kind, N: n, Index: index}
				for _, x := range []N{variable("a", s), {Op: api.Num, Sort: s}, {Op: api.Num, U: 1 << 63, Sort: s}, {Op: api.Zero, Sort: s}} {
					want, e := sortOf(G{}, x)
					if got, f := term.SortOf(G{}, x); got != want || e != f {
						t.Errorf("%v: %v, %d, not %v, %d", x, got, f, want, e)
					}
				}
			}
		}
	}
}

// P7.1: all operations with kids of all sorts around the sizes that matter, and numbers around them.
func TestSortsOfKids(t *testing.T) {
	g := variables(edgeSorts())
	check := func(n N) {
		t.Helper()
		want, e := sortOf(g, n)
		if s, f := term.SortOf(g, n); s != want || f != e {
			t.Fatalf("%s %v: %v, %d, not %v, %d", operations[n.Op], n, s, f, want, e)
		}
	}
	for o, word := range operations {
		each := func(n N) {
			switch word {
			case "extract":
				for n.N = -2; n.N <= 66; n.N++ {
					for n.M = -2; n.M <= 66; n.M++ {
						check(n)
					}
				}
			case "zext", "sext", "byte":
				for n.N = -2; n.N <= 66; n.N++ {
					check(n)
				}
			case "in":
				n.Text = "'a'"
				check(n)
			default:
				check(n)
			}
		}
		all := numbers(len(g.Nodes))
		switch rows[word].kids {
		case 1:
			for _, x := range all {
				each(op(o, x))
			}
		case 2:
			for _, x := range all {
				for _, y := range all {
					each(op(o, x, y))
				}
			}
		case 3:
			for _, x := range all {
				for _, y := range all {
					for _, z := range all {
						each(op(o, x, y, z))
					}
				}
			}
		}
	}
}

// P7.1: nodes with any errors, and none.
func TestRandomNodes(t *testing.T) {
	r := random(1)
	odd := []int{0, 0, 0, 0, 0, 0, 0, 0, 1, -1, 7, 63, 64, math.MaxInt, math.MinInt}
	got := map[api.Errno]int{}
	for range 60 {
		g := randomGraph(r, 20)
		for range 500 {
			n := randomNode(r, g)
			if n.Op == api.In && r.IntN(2) == 0 {
				n.Text += []string{" ", "'", "|'a'", "empty"}[r.IntN(4)]
			}
			// Most nodes stay as they are, or get one or two faults.
			for range r.IntN(3) {
				switch r.IntN(9) {
				case 0:
					n.Op += odd[r.IntN(len(odd))]
				case 1:
					n.N += odd[r.IntN(len(odd))]
				case 2:
					n.M += odd[r.IntN(len(odd))]
				case 3:
					n.U += uint64(odd[r.IntN(len(odd))])
				case 4:
					n.Text += []string{"", "", "a", "|", strings.Repeat("a", 65)}[r.IntN(5)]
				case 5:
					n.Sort.N += odd[r.IntN(len(odd))]
				case 6:
					n.Sort.Kind += odd[r.IntN(len(odd))]
				case 7:
					n.Sort.Index += odd[r.IntN(len(odd))]
				case 8:
					if len(n.Kids) > 0 {
						n.Kids[r.IntN(len(n.Kids))] += odd[r.IntN(len(odd))]
					}
				}
			}
			want, e := sortOf(g, n)
			got[e]++
			if s, f := term.SortOf(g, n); s != want || f != e {
				t.Fatalf("%v: %v, %d, not %v, %d", n, s, f, want, e)
			}
		}
	}
	for _, e := range []api.Errno{api.OK, api.ErrArg, api.ErrName, api.ErrSort, api.ErrRange, api.ErrForm, api.ErrTwice} {
		if got[e] < 10 {
			t.Errorf("the error %d occurs %d times", e, got[e])
		}
	}
}

// P7.1: neither the graph nor the node is changed, and the Sort of other operations does not matter.
func TestSortOfChangesNothing(t *testing.T) {
	r := random(2)
	g, changed := roomy(randomGraph(r, 40))
	for range 2000 {
		n := randomNode(r, g)
		kids := append([]int(nil), n.Kids...)
		s, e := term.SortOf(g, n)
		if changed() || !same(n, N{Op: n.Op, Kids: kids, N: n.N, M: n.M, U: n.U, Text: n.Text, Sort: n.Sort}) {
			t.Fatalf("SortOf has changed %v", n)
		}
		if n.Op == api.Var || n.Op == api.Num || n.Op == api.Zero {
			continue
		}
		for _, other := range []S{{}, bv(8), str(5), {Kind: 9, N: -1, Index: 77}} {
			if x, f := term.SortOf(g, sorted(n, other)); x != s || f != e {
				t.Fatalf("%v with the sort %v: %v, %d, not %v, %d", n, other, x, f, s, e)
			}
		}
	}
}
