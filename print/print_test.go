package print_test

import (
	"math"
	"strings"
	"testing"

	"enthymeme/api"
	"enthymeme/print"
	"enthymeme/term"
	"enthymeme/value"
)

// P11.1
func TestSort(t *testing.T) {
	for s, want := range map[S]string{
		bv(1): "(bv 1)", bv(8): "(bv 8)", bv(64): "(bv 64)", str(0): "(str 0)", str(5): "(str 5)", str(64): "(str 64)",
		arr(1, 64): "(arr 1 64)", arr(16, 1): "(arr 16 1)", arr(3, 8): "(arr 3 8)", ars(1, 64): "(ars 1 64)", ars(16, 0): "(ars 16 0)", ars(4, 10): "(ars 4 10)",
	} {
		if got, e := print.Sort(s); got != want || e != api.OK {
			t.Errorf("%v: %s, %d, not %s", s, got, e, want)
		}
	}
}

// P11.1: all small sorts, valid or not, and those with large numbers.
func TestSorts(t *testing.T) {
	numbers := []int{math.MinInt, -65, -2, 1 << 20, 1<<32 + 1, math.MaxInt}
	for n := -1; n <= 66; n++ {
		numbers = append(numbers, n)
	}
	valid := 0
	for _, kind := range []int{math.MinInt, -1, 0, 1, 2, 3, 4, 5, math.MaxInt} {
		for _, n := range numbers {
			for _, index := range numbers {
				s := S{Kind: kind, N: n, Index: index}
				want, f := "", value.ValidSort(s)
				if f == api.OK {
					valid++
					want = sortText(s)
				}
				if got, e := print.Sort(s); got != want || e != f {
					t.Errorf("%v: %s, %d, not %s, %d", s, got, e, want, f)
				}
			}
		}
	}
	if valid != 64+65+64*16+65*16 {
		t.Errorf("%d valid sorts", valid)
	}
	for _, s := range []S{{}, bv(0), bv(65), str(-1), str(65), {Kind: api.BV, N: 8, Index: 1}, arr(0, 8), arr(17, 8), arr(4, 0), ars(4, 65), {Kind: 4, N: 1}} {
		if got, e := print.Sort(s); got != "" || e != api.ErrSort {
			t.Errorf("%v: %s, %d", s, got, e)
		}
	}
}

// P11.2: each operation.
func TestTerm(t *testing.T) {
	// 0 p, 1 x, 2 y, 3 s, 4 u, 5 f, 6 g, 7 i, 8 k
	variables := []N{variable("p", bv(1)), variable("x", bv(8)), variable("y-1", bv(8)), variable("s", str(5)), variable("abcdefghijklmnop", str(3)), variable("f", arr(3, 8)), variable("g", ars(3, 5)), variable("i", bv(3)), variable("k", bv(7))}
	for _, c := range []struct {
		n    N
		want string
	}{
		{op(api.Not, 1), "(not x)"}, {op(api.Neg, 2), "(neg y-1)"}, {op(api.And, 1, 2), "(and x y-1)"}, {op(api.And, 2, 1), "(and y-1 x)"}, {op(api.Or, 0, 0), "(or p p)"}, {op(api.Xor, 1, 2), "(xor x y-1)"}, {op(api.Add, 1, 2), "(add x y-1)"}, {op(api.Mul, 1, 2), "(mul x y-1)"}, {op(api.Udiv, 1, 2), "(udiv x y-1)"}, {op(api.Urem, 1, 2), "(urem x y-1)"},
		{op(api.Shl, 1, 2), "(shl x y-1)"}, {op(api.Lshr, 1, 2), "(lshr x y-1)"}, {op(api.Ashr, 1, 2), "(ashr x y-1)"}, {op(api.Ult, 1, 2), "(ult x y-1)"}, {op(api.Slt, 1, 2), "(slt x y-1)"}, {op(api.Eq, 1, 2), "(eq x y-1)"}, {op(api.Eq, 3, 4), "(eq s abcdefghijklmnop)"}, {op(api.Ite, 0, 1, 2), "(ite p x y-1)"}, {op(api.Ite, 0, 5, 5), "(ite p f f)"},
		{op(api.Concat, 1, 0), "(concat x p)"}, {sized(api.Extract, 7, 4, 1), "(extract 7 4 x)"}, {sized(api.Extract, 3, 0, 1), "(extract 3 0 x)"}, {sized(api.Extract, 0, 0, 0), "(extract 0 0 p)"}, {sized(api.Zext, 56, 0, 1), "(zext 56 x)"}, {sized(api.Zext, 1, 0, 0), "(zext 1 p)"}, {sized(api.Sext, 10, 0, 2), "(sext 10 y-1)"},
		{op(api.Select, 5, 7), "(select f i)"}, {op(api.Store, 5, 7, 1), "(store f i x)"}, {op(api.Store, 6, 7, 4), "(store g i abcdefghijklmnop)"}, {op(api.Diff, 6, 6), "(diff g g)"},
		{op(api.Len, 3), "(len s)"}, {sized(api.Byte, 0, 0, 3), "(byte 0 s)"}, {sized(api.Byte, 63, 0, 3), "(byte 63 s)"}, {op(api.Cat, 3, 4), "(cat s abcdefghijklmnop)"}, {op(api.Sub, 3, 8, 8), "(sub s k k)"}, {op(api.Find, 3, 4), "(find s abcdefghijklmnop)"}, {op(api.Replace, 3, 4, 3), "(replace s abcdefghijklmnop s)"}, {op(api.Char, 1), "(char x)"},
		{in("'a'*'b'", 3), `(in "'a'*'b'" s)`}, {in("!none", 3), `(in "!none" s)`}, {in(`'"'`, 3), `(in "'\"'" s)`}, {in(`\x00[' '-\x5c]`, 3), `(in "\\x00[' '-\\x5c]" s)`}, {in(`empty`, 4), `(in "empty" abcdefghijklmnop)`},
		{N{Op: api.Zero, Sort: arr(3, 8)}, "(zero (arr 3 8))"}, {N{Op: api.Zero, Sort: ars(16, 0)}, "(zero (ars 16 0))"},
		{variable("e", bv(2)), "e"}, {variable("not", arr(1, 1)), "not"}, {variable("b0123456789-----", str(0)), "b0123456789-----"},
		{num(5, 4), "#x5"}, {num(5, 5), "#b00101"}, {num(0, 1), "#b0"}, {num(1, 1), "#b1"}, {num(0, 64), "#x0000000000000000"}, {num(math.MaxUint64, 64), "#xffffffffffffffff"}, {num(1<<62, 63), "#b1" + strings.Repeat("0", 62)}, {num(0xabc, 12), "#xabc"},
		{text(""), `""`}, {text("a b"), `"a b"`}, {text("\"\\\n\xff"), `"\"\\\x0a\xff"`}, {text(strings.Repeat("\x00", 64)), `"` + strings.Repeat(`\x00`, 64) + `"`},
	} {
		g := graph(t, append(variables, c.n)...)
		printsTerm(t, g, len(variables), c.want)
	}
	printsTerm(t, graph(t, variables...), 4, "abcdefghijklmnop")
}

// P11.2: the example of the chapter, terms in terms, and terms that occur several times.
func TestNested(t *testing.T) {
	g := graph(t, variable("x", bv(4)), num(5, 4), op(api.And, 0, 1))
	printsTerm(t, g, 2, "(and x #x5)")
	g = graph(t, variable("x", bv(8)), op(api.Not, 0), op(api.Add, 1, 0), op(api.Ult, 2, 1), op(api.Ite, 3, 2, 1), variable("s", str(4)), sized(api.Byte, 12, 0, 5), op(api.Eq, 4, 6), in("'a'|'b'", 5), op(api.And, 7, 8))
	printsTerm(t, g, 9, `(and (eq (ite (ult (add (not x) x) (not x)) (add (not x) x) (not x)) (byte 12 s)) (in "'a'|'b'" s))`)
	printsTerm(t, g, 0, "x")
	printsTerm(t, g, 3, "(ult (add (not x) x) (not x))")
	g = graph(t, N{Op: api.Zero, Sort: arr(1, 1)}, num(0, 1), num(1, 1), op(api.Store, 0, 1, 2), op(api.Select, 3, 1), op(api.Diff, 0, 3), op(api.Concat, 4, 5), sized(api.Extract, 1, 0, 6))
	printsTerm(t, g, 7, "(extract 1 0 (concat (select (store (zero (arr 1 1)) #b0 #b1) #b0) (diff (zero (arr 1 1)) (store (zero (arr 1 1)) #b0 #b1))))")
}

// P11.2: numbers of all widths, and all bytes.
func TestLeaves(t *testing.T) {
	r := random(1)
	for width := 1; width <= 64; width++ {
		for _, u := range []uint64{0, 1, 1<<width - 1, 1 << (width - 1), r.Uint64() >> (64 - width), r.Uint64() >> (64 - width)} {
			printsTerm(t, G{Nodes: []N{num(u, width)}}, 0, digits(u, width))
		}
	}
	for c := range 256 {
		s := string([]byte{'a', byte(c), '"', byte(c)})
		printsTerm(t, graph(t, text(s)), 0, quoted(s))
	}
}

// P11.2: the errors of graphs, and numbers that are none of nodes.
func TestTermErrors(t *testing.T) {
	good := graph(t, variable("x", bv(8)), op(api.Not, 0))
	for _, node := range []int{-1, 2, 3, 4096, math.MinInt, math.MaxInt} {
		termFails(t, good, node, api.ErrNone)
	}
	termFails(t, G{}, 0, api.ErrNone)
	termFails(t, G{}, -1, api.ErrNone)
	large := G{}
	for u := range uint64(4097) {
		large.Nodes = append(large.Nodes, num(u, 13))
	}
	// 4096 nodes are no error.
	printsTerm(t, G{Nodes: large.Nodes[:4096]}, 4095, "#b0111111111111")
	for _, c := range []struct {
		g G
		e api.Errno
	}{
		{large, api.ErrLimit},
		{G{Nodes: []N{variable("x", bv(8)), {Op: api.Not, Kids: []int{1}, Sort: bv(8)}}}, api.ErrArg}, {G{Nodes: []N{variable("x", bv(8)), {Op: 35, Sort: bv(8)}}}, api.ErrArg}, {G{Nodes: []N{variable("x", bv(8)), {Op: -1}}}, api.ErrArg}, {G{Nodes: []N{variable("x", bv(8)), {Op: api.Zero, Sort: arr(1, 1), N: 1}}}, api.ErrArg},
		{G{Nodes: []N{variable("x", bv(8)), variable("X", bv(8))}}, api.ErrName}, {G{Nodes: []N{variable("x", bv(8)), variable("x", bv(7))}}, api.ErrTwice}, {G{Nodes: []N{variable("x", bv(8)), variable("x", bv(8))}}, api.ErrTwice}, {G{Nodes: []N{variable("x", bv(8)), variable("y", bv(65))}}, api.ErrSort}, {G{Nodes: []N{variable("x", bv(8)), {Op: api.Not, Kids: []int{0}, Sort: bv(7)}}}, api.ErrSort},
		{G{Nodes: []N{variable("x", bv(8)), num(8, 3)}}, api.ErrRange}, {G{Nodes: []N{variable("s", str(8)), {Op: api.In, Text: "'a", Kids: []int{0}, Sort: bv(1)}}}, api.ErrForm}, {G{Nodes: []N{variable("s", str(8)), {Op: api.In, Text: "'b'|'a'", Kids: []int{0}, Sort: bv(1)}}}, api.ErrForm},
	} {
		// Wherever the error is, it comes before that of the number.
		for _, node := range []int{0, 1, 2, -1, 5000} {
			termFails(t, c.g, node, c.e)
		}
	}
}

// P11.2: the limit of the depth.
func TestDepth(t *testing.T) {
	zero := N{Op: api.Zero, Sort: arr(8, 8)}
	for i, c := range []struct {
		g     G
		first int // the first of nodes with increasing depths
		depth int // its depth
	}{
		{chain(t, 80, api.Not, 1, variable("x", bv(8))), 0, 0}, {chain(t, 80, api.Not, 1, num(5, 8)), 0, 0}, {chain(t, 80, api.Not, 1, text(""), op(api.Len, 0)), 1, 1},
		{chain(t, 80, api.Not, 1, zero, num(5, 8), op(api.Select, 0, 1)), 2, 2},
		// The greatest depth of a kid, whichever it is.
		{leaning(t, 0), 1, 0}, {leaning(t, 1), 1, 0}, {leaning(t, 2), 1, 0},
	} {
		_, depths := measured(c.g)
		for node := c.first; node < len(c.g.Nodes); node++ {
			depth := c.depth + node - c.first
			if depths[node] != depth {
				t.Fatalf("%d: node %d has the depth %d", i, node, depths[node])
			}
			if depth > 64 {
				termFails(t, c.g, node, api.ErrLimit)
				continue
			}
			printsTerm(t, c.g, node, written(c.g, node))
		}
	}
	deep := chain(t, 4095, api.Not, 1, variable("x", bv(8)))
	termFails(t, deep, 4095, api.ErrLimit)
	termFails(t, deep, 65, api.ErrLimit)
	printsTerm(t, deep, 64, strings.Repeat("(not ", 64)+"x"+strings.Repeat(")", 64))
}

// leaning is a graph of p, q, and many nodes Ite, each of which has the one before it as one kid, and variables as the others.
func leaning(t *testing.T, at int) G {
	t.Helper()
	g := graph(t, variable("p", bv(1)), variable("q", bv(1)))
	for last := 1; last < 80; last++ {
		kids := []int{0, 1, 0}
		kids[at] = last
		g.Nodes = append(g.Nodes, N{Op: api.Ite, Kids: kids, Sort: bv(1)})
	}
	if e := term.Valid(g); e != api.OK {
		t.Fatal(e)
	}
	return g
}

// doubled is a graph of two nodes on each level, from 0 on. On the level k the first one has a text of 2^k * (size + 7) - 7 bytes, the second one 7 bytes more: each is And of the first one on the level before and of the one in its own place there.
func doubled(t *testing.T, size, levels int) G {
	t.Helper()
	g := graph(t, variable(strings.Repeat("a", size), bv(1)), variable(strings.Repeat("b", size+7), bv(1)))
	for range levels {
		i := len(g.Nodes) - 2
		g.Nodes = append(g.Nodes, N{Op: api.And, Kids: []int{i, i}, Sort: bv(1)}, N{Op: api.And, Kids: []int{i, i + 1}, Sort: bv(1)})
	}
	return g
}

// P11.2: the limit of the text.
func TestLength(t *testing.T) {
	// The last node has 2^13 * (1 + 7) bytes.
	g := doubled(t, 1, 13)
	last := len(g.Nodes) - 1
	for node := range g.Nodes {
		printsTerm(t, g, node, written(g, node))
	}
	s, _ := print.Term(g, last)
	if len(s) != 65536 || s != written(g, last) {
		t.Errorf("%d bytes", len(s))
	}
	// One more at one place: only those that have it are too long.
	g.Nodes[1].Text += "b"
	termFails(t, g, last, api.ErrLimit)
	printsTerm(t, g, last-1, written(g, last-1))
	// One less, and one more again.
	g.Nodes[1].Text = "bbbbbbb"
	if s, e := print.Term(g, last); len(s) != 65535 || e != api.OK {
		t.Errorf("%d bytes, %d", len(s), e)
	}
	for size := 2; size <= 9; size++ {
		termFails(t, doubled(t, size, 13), last, api.ErrLimit)
	}
}

// P11.2: lengths beyond all ints.
func TestHugeLengths(t *testing.T) {
	for i, c := range []struct{ o, kids, good int }{{api.And, 2, 13}, {api.Ite, 3, 8}, {api.Xor, 2, 13}} {
		for _, name := range []string{"a", "ab", "abcdefghi"} {
			g := chain(t, 200, c.o, c.kids, variable(name, bv(1)))
			got := 0
			for node := range g.Nodes {
				if s, e := print.Term(g, node); e == api.OK {
					got = node
					if s != written(g, node) {
						t.Errorf("%d: the text of %d", i, node)
					}
				} else if s != "" || e != api.ErrLimit || node < 5 {
					t.Errorf("%d: %d: %.100s, %d", i, node, s, e)
				}
			}
			if lengths, _ := measured(g); got > c.good || !fits(lengths[got]) || fits(lengths[got+1]) {
				t.Errorf("%d: %d is the last one with a text", i, got)
			}
		}
	}
	// In a graph with such nodes others have texts.
	g := chain(t, 200, api.Ite, 3, variable("a", bv(1)))
	g.Nodes = append(g.Nodes, N{Op: api.Not, Kids: []int{0}, Sort: bv(1)})
	printsTerm(t, g, 201, "(not a)")
}
