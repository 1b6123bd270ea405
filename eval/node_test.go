package eval_test

import (
	"math"
	"slices"
	"strings"
	"testing"

	"enthymeme/api"
	"enthymeme/eval"
	"enthymeme/value"
)

// The examples of the chapter.
func TestExample(t *testing.T) {
	s := txt("aba", 3)
	for i, x := range []struct {
		n    N
		kids []V
		want V
	}{
		{op(api.Find), []V{s, txt("b", 1)}, num(1, 7)},
		{op(api.Find), []V{s, txt("c", 1)}, num(127, 7)},
		{op(api.Replace), []V{s, txt("a", 1), txt("cc", 2)}, txt("ccba", 5)},
		{op(api.Sub), []V{s, num(1, 7), num(9, 7)}, txt("ba", 3)},
		{op(api.Udiv), []V{num(5, 3), num(0, 3)}, num(7, 3)},
	} {
		if v, e := eval.Node(x.n, x.kids); e != api.OK || !same(v, x.want) {
			t.Errorf("%d: %v, %d, not %v", i, v, e, x.want)
		}
	}
}

// call is a node, the values of its kids, and its own value.
type call struct {
	n    N
	kids []V
	want V
}

// callsOfBits are operations whose values are those of bits.
func callsOfBits() []call {
	return []call{
		{N{Op: api.Num, U: 5, Sort: bv(8)}, nil, num(5, 8)}, {N{Op: api.Num, U: math.MaxUint64, Sort: bv(64)}, nil, num(math.MaxUint64, 64)},
		{op(api.Not), []V{num(9, 4)}, num(6, 4)}, {op(api.Neg), []V{num(9, 4)}, num(7, 4)}, {op(api.Not), []V{num(0, 64)}, num(math.MaxUint64, 64)},
		{op(api.And), []V{num(12, 4), num(10, 4)}, num(8, 4)}, {op(api.Or), []V{num(12, 4), num(10, 4)}, num(14, 4)}, {op(api.Xor), []V{num(12, 4), num(10, 4)}, num(6, 4)},
		{op(api.Add), []V{num(9, 4), num(9, 4)}, num(2, 4)}, {op(api.Mul), []V{num(5, 4), num(7, 4)}, num(3, 4)},
		{op(api.Udiv), []V{num(13, 4), num(3, 4)}, num(4, 4)}, {op(api.Urem), []V{num(13, 4), num(3, 4)}, num(1, 4)}, {op(api.Udiv), []V{num(3, 4), num(13, 4)}, num(0, 4)}, {op(api.Urem), []V{num(13, 4), num(0, 4)}, num(13, 4)},
		{op(api.Shl), []V{num(3, 4), num(2, 4)}, num(12, 4)}, {op(api.Lshr), []V{num(9, 4), num(2, 4)}, num(2, 4)}, {op(api.Ashr), []V{num(9, 4), num(1, 4)}, num(12, 4)}, {op(api.Ashr), []V{num(9, 4), num(15, 4)}, num(15, 4)}, {op(api.Shl), []V{num(3, 4), num(4, 4)}, num(0, 4)},
		{op(api.Ult), []V{num(1, 4), num(9, 4)}, num(1, 1)}, {op(api.Ult), []V{num(9, 4), num(1, 4)}, num(0, 1)}, {op(api.Slt), []V{num(1, 4), num(9, 4)}, num(0, 1)}, {op(api.Slt), []V{num(9, 4), num(1, 4)}, num(1, 1)}, {op(api.Ult), []V{num(9, 4), num(9, 4)}, num(0, 1)},
		{op(api.Eq), []V{num(9, 4), num(9, 4)}, num(1, 1)}, {op(api.Eq), []V{num(9, 4), num(1, 4)}, num(0, 1)},
		{op(api.Ite), []V{num(1, 1), num(9, 4), num(2, 4)}, num(9, 4)}, {op(api.Ite), []V{num(0, 1), num(9, 4), num(2, 4)}, num(2, 4)},
		{op(api.Concat), []V{num(2, 2), num(5, 3)}, num(21, 5)}, {op(api.Concat), []V{num(5, 3), num(2, 2)}, num(22, 5)}, {op(api.Concat), []V{num(1, 1), num(0, 63)}, num(1<<63, 64)},
		{sized(api.Extract, 4, 3), []V{num(21, 5)}, num(2, 2)}, {sized(api.Extract, 2, 2), []V{num(21, 5)}, num(1, 1)}, {sized(api.Extract, 63, 0), []V{num(math.MaxUint64, 64)}, num(math.MaxUint64, 64)},
		{sized(api.Zext, 4, 0), []V{num(9, 4)}, num(9, 8)}, {sized(api.Sext, 4, 0), []V{num(9, 4)}, num(249, 8)}, {sized(api.Sext, 4, 0), []V{num(7, 4)}, num(7, 8)}, {sized(api.Sext, 63, 0), []V{num(1, 1)}, num(math.MaxUint64, 64)},
	}
}

// callsOfArrays are operations with arrays.
func callsOfArrays() []call {
	octets, words := arr(8, 4), ars(3, 4)
	a, b := of(octets, bit(3, 5), bit(9, 6)), of(words, word(0, "x"), word(15, "yyy"))
	none := of(ars(0, 1))
	return []call{
		{N{Op: api.Zero, Sort: octets}, nil, of(octets)}, {N{Op: api.Zero, Sort: words}, nil, of(words)},
		{op(api.Select), []V{a, num(3, 4)}, num(5, 8)}, {op(api.Select), []V{a, num(4, 4)}, num(0, 8)}, {op(api.Select), []V{b, num(15, 4)}, txt("yyy", 3)}, {op(api.Select), []V{b, num(1, 4)}, txt("", 3)},
		{op(api.Store), []V{a, num(4, 4), num(7, 8)}, of(octets, bit(3, 5), bit(4, 7), bit(9, 6))}, {op(api.Store), []V{a, num(3, 4), num(0, 8)}, of(octets, bit(9, 6))}, {op(api.Store), []V{of(octets), num(15, 4), num(255, 8)}, of(octets, bit(15, 255))},
		{op(api.Store), []V{b, num(0, 4), txt("zz", 2)}, of(words, word(0, "zz"), word(15, "yyy"))}, {op(api.Store), []V{b, num(0, 4), txt("", 0)}, of(words, word(15, "yyy"))}, {op(api.Store), []V{none, num(1, 1), txt("", 0)}, none},
		{op(api.Diff), []V{a, a}, num(0, 4)}, {op(api.Diff), []V{a, of(octets)}, num(3, 4)}, {op(api.Diff), []V{a, of(octets, bit(3, 5))}, num(9, 4)}, {op(api.Diff), []V{b, of(words, word(0, "y"), word(1, "z"))}, num(0, 4)},
		{op(api.Eq), []V{a, a}, num(1, 1)}, {op(api.Eq), []V{a, of(octets)}, num(0, 1)}, {op(api.Eq), []V{a, of(octets, bit(3, 5), bit(9, 7))}, num(0, 1)}, {op(api.Eq), []V{of(octets), of(octets)}, num(1, 1)}, {op(api.Eq), []V{b, b}, num(1, 1)}, {op(api.Eq), []V{b, of(words, word(1, "x"), word(15, "yyy"))}, num(0, 1)},
		{op(api.Ite), []V{num(1, 1), a, of(octets)}, a}, {op(api.Ite), []V{num(0, 1), a, of(octets)}, of(octets)}, {op(api.Ite), []V{num(0, 1), of(words), b}, b},
	}
}

// callsOfStrings are operations with strings.
func callsOfStrings() []call {
	long := strings.Repeat("ab", 32)
	s := txt("abab", 5)
	return []call{
		{N{Op: api.Text, Text: "a\x00\xff"}, nil, txt("a\x00\xff", 3)}, {N{Op: api.Text}, nil, txt("", 0)}, {N{Op: api.Text, Text: long}, nil, txt(long, 64)},
		{op(api.Eq), []V{s, txt("abab", 64)}, num(1, 1)}, {op(api.Eq), []V{s, txt("abaa", 4)}, num(0, 1)}, {op(api.Eq), []V{txt("", 0), txt("", 9)}, num(1, 1)}, {op(api.Eq), []V{s, txt("ababa", 5)}, num(0, 1)},
		{op(api.Ite), []V{num(1, 1), txt("a", 2), txt("b", 5)}, txt("a", 5)}, {op(api.Ite), []V{num(0, 1), txt("a", 2), txt("b", 5)}, txt("b", 5)}, {op(api.Ite), []V{num(0, 1), txt("a", 7), txt("b", 5)}, txt("b", 7)},
		{op(api.Len), []V{s}, num(4, 7)}, {op(api.Len), []V{txt("", 64)}, num(0, 7)}, {op(api.Len), []V{txt(long, 64)}, num(64, 7)}, {op(api.Len), []V{txt("ü", 2)}, num(2, 7)},
		{sized(api.Byte, 0, 0), []V{s}, num('a', 8)}, {sized(api.Byte, 3, 0), []V{s}, num('b', 8)}, {sized(api.Byte, 4, 0), []V{s}, num(0, 8)}, {sized(api.Byte, 63, 0), []V{s}, num(0, 8)}, {sized(api.Byte, 63, 0), []V{txt(long, 64)}, num('b', 8)}, {sized(api.Byte, 0, 0), []V{txt("", 0)}, num(0, 8)}, {sized(api.Byte, 1, 0), []V{txt("a\xff", 2)}, num(255, 8)},
		{op(api.Cat), []V{s, txt("c", 2)}, txt("ababc", 7)}, {op(api.Cat), []V{txt("", 0), s}, txt("abab", 5)}, {op(api.Cat), []V{s, txt("", 59)}, txt("abab", 64)},
		{op(api.Sub), []V{s, num(0, 7), num(4, 7)}, txt("abab", 5)}, {op(api.Sub), []V{s, num(0, 7), num(127, 7)}, txt("abab", 5)}, {op(api.Sub), []V{s, num(1, 7), num(2, 7)}, txt("ba", 5)}, {op(api.Sub), []V{s, num(3, 7), num(1, 7)}, txt("b", 5)}, {op(api.Sub), []V{s, num(4, 7), num(1, 7)}, txt("", 5)}, {op(api.Sub), []V{s, num(127, 7), num(127, 7)}, txt("", 5)}, {op(api.Sub), []V{s, num(2, 7), num(0, 7)}, txt("", 5)}, {op(api.Sub), []V{txt("", 0), num(0, 7), num(1, 7)}, txt("", 0)},
		{op(api.Find), []V{s, txt("ab", 2)}, num(0, 7)}, {op(api.Find), []V{s, txt("ba", 2)}, num(1, 7)}, {op(api.Find), []V{s, txt("", 2)}, num(0, 7)}, {op(api.Find), []V{txt("", 0), txt("", 0)}, num(0, 7)}, {op(api.Find), []V{s, txt("abb", 3)}, num(127, 7)}, {op(api.Find), []V{s, txt("ababa", 5)}, num(127, 7)}, {op(api.Find), []V{txt(long[:63]+"c", 64), txt("c", 1)}, num(63, 7)}, {op(api.Find), []V{txt("", 0), txt("a", 1)}, num(127, 7)},
		{op(api.Replace), []V{s, txt("ba", 2), txt("-", 1)}, txt("a-b", 6)}, {op(api.Replace), []V{s, txt("ab", 2), txt("", 0)}, txt("ab", 5)}, {op(api.Replace), []V{s, txt("", 0), txt("-", 1)}, txt("-abab", 6)}, {op(api.Replace), []V{s, txt("c", 1), txt("-", 1)}, txt("abab", 6)}, {op(api.Replace), []V{s, txt("b", 1), txt("bb", 2)}, txt("abbab", 7)}, {op(api.Replace), []V{txt("", 0), txt("", 0), txt("x", 1)}, txt("x", 1)}, {op(api.Replace), []V{txt("\xff\xff", 2), txt("", 0), txt("x", 1)}, txt("x\xff\xff", 3)},
		{in("'a'*'b'"), []V{txt("aab", 3)}, num(1, 1)}, {in("'a'*'b'"), []V{s}, num(0, 1)}, {in("none"), []V{txt("", 0)}, num(0, 1)}, {in("empty"), []V{txt("", 0)}, num(1, 1)}, {in("!none"), []V{txt(long, 64)}, num(1, 1)}, {in("('a''b')*"), []V{txt(long, 64)}, num(1, 1)}, {in("\\xff"), []V{txt("\xff", 1)}, num(1, 1)},
		{op(api.Char), []V{num('a', 8)}, txt("a", 1)}, {op(api.Char), []V{num(0, 8)}, txt("\x00", 1)}, {op(api.Char), []V{num(255, 8)}, txt("\xff", 1)}, {op(api.Char), []V{num(128, 8)}, txt("\x80", 1)},
	}
}

// P8.2: the values of all operations; neither Kids nor, for most operations, Sort matters.
func TestNode(t *testing.T) {
	done := map[int]bool{}
	for _, x := range slices.Concat(callsOfBits(), callsOfArrays(), callsOfStrings()) {
		done[x.n.Op] = true
		kids, changed := roomyValues(x.kids)
		for i, k := range [][]int{nil, {0, 1, 2, 3, 4}, {-1}} {
			n := x.n
			n.Kids = k
			if i > 0 && n.Op != api.Num && n.Op != api.Zero {
				n.Sort = []S{bv(99), arr(-1, 5)}[i-1]
			}
			v, e := eval.Node(n, kids)
			if e != api.OK || !same(v, x.want) {
				t.Errorf("%v of %v: %v, %d, not %v", n, kids, v, e, x.want)
			}
			scribble([]V{v})
			if changed() || !slices.Equal(n.Kids, [][]int{nil, {0, 1, 2, 3, 4}, {-1}}[i]) {
				t.Fatalf("%v of %v has changed its arguments", n, kids)
			}
		}
	}
	for o := api.Var + 1; o <= api.Char; o++ {
		if !done[o] {
			t.Errorf("the operation %d is missing", o)
		}
	}
}

// P8.2: errors in their order.
func TestNodeErrors(t *testing.T) {
	s, x, y, a := txt("ab", 2), num(5, 8), num(5, 7), of(arr(8, 4))
	wide, badSort, badEntries := num(256, 8), num(0, 65), of(arr(8, 4), bit(16, 1))
	five := slices.Repeat([]V{x}, 5)
	for i, k := range []struct {
		n    N
		kids []V
		e    api.Errno
	}{
		// A value that is not valid.
		{op(api.Not), []V{wide}, api.ErrArg}, {op(api.Not), []V{badSort}, api.ErrSort}, {op(api.Add), []V{x, badSort}, api.ErrSort}, {op(api.Add), []V{wide, badSort}, api.ErrArg}, {op(api.Add), []V{badSort, wide}, api.ErrSort}, {op(api.Select), []V{badEntries, num(0, 4)}, api.ErrArg}, {op(api.Len), []V{txt("abc", 2)}, api.ErrArg},
		{variable("x", bv(8)), []V{badSort}, api.ErrSort}, {N{Op: -1}, []V{badSort}, api.ErrSort}, {op(api.Not), []V{x, x, x, badSort}, api.ErrSort}, {op(api.Add), []V{s, badEntries}, api.ErrArg}, {variable("X", S{Kind: 9}), []V{wide}, api.ErrArg},
		// A variable.
		{variable("x", bv(8)), nil, api.ErrArg}, {variable("x", bv(8)), []V{x}, api.ErrArg}, {variable("X", bv(8)), nil, api.ErrArg}, {variable("x", bv(65)), nil, api.ErrArg}, {N{}, nil, api.ErrArg},
		// What is wrong with the node itself.
		{N{Op: -1}, nil, api.ErrArg}, {N{Op: api.Char + 1}, []V{x}, api.ErrArg}, {N{Op: math.MinInt}, nil, api.ErrArg}, {N{Op: math.MaxInt}, nil, api.ErrArg},
		{op(api.Not), nil, api.ErrArg}, {op(api.Not, 0), nil, api.ErrArg}, {op(api.Not), []V{x, x}, api.ErrArg}, {op(api.Add), []V{x}, api.ErrArg}, {op(api.Ite), []V{num(1, 1), x}, api.ErrArg}, {op(api.Ite), five, api.ErrArg}, {N{Op: api.Num, Sort: bv(8)}, []V{x}, api.ErrArg}, {N{Op: api.Text}, []V{s}, api.ErrArg}, {N{Op: api.Zero, Sort: arr(8, 4)}, []V{a}, api.ErrArg}, {op(api.Store), []V{a, num(1, 4)}, api.ErrArg},
		{N{Op: api.Not, U: 1}, []V{x}, api.ErrArg}, {N{Op: api.Not, N: 1}, []V{x}, api.ErrArg}, {N{Op: api.Byte, M: 1}, []V{s}, api.ErrArg}, {N{Op: api.Cat, Text: "a"}, []V{s, s}, api.ErrArg}, {N{Op: api.Num, Text: "a", Sort: bv(8)}, nil, api.ErrArg},
		{N{Op: api.Num, Sort: bv(65)}, nil, api.ErrSort}, {N{Op: api.Num, Sort: str(5)}, nil, api.ErrSort}, {N{Op: api.Zero, Sort: bv(8)}, nil, api.ErrSort}, {N{Op: api.Zero, Sort: arr(8, 17)}, nil, api.ErrSort},
		{op(api.Not), []V{s}, api.ErrSort}, {op(api.Add), []V{x, y}, api.ErrSort}, {op(api.Eq), []V{x, y}, api.ErrSort}, {op(api.Eq), []V{x, s}, api.ErrSort}, {op(api.Eq), []V{a, of(arr(8, 3))}, api.ErrSort}, {op(api.Ite), []V{x, x, x}, api.ErrSort}, {op(api.Select), []V{a, x}, api.ErrSort}, {op(api.Store), []V{a, num(1, 4), y}, api.ErrSort}, {op(api.Store), []V{of(ars(1, 4)), num(1, 4), s}, api.ErrSort}, {op(api.Diff), []V{a, of(ars(8, 4))}, api.ErrSort}, {op(api.Sub), []V{s, x, y}, api.ErrSort}, {op(api.Char), []V{y}, api.ErrSort}, {op(api.Len), []V{a}, api.ErrSort},
		{N{Op: api.Num, U: 256, Sort: bv(8)}, nil, api.ErrRange}, {N{Op: api.Text, Text: strings.Repeat("a", 65)}, nil, api.ErrRange}, {op(api.Concat), []V{num(0, 60), num(0, 5)}, api.ErrRange}, {sized(api.Extract, 8, 0), []V{x}, api.ErrRange}, {sized(api.Zext, 57, 0), []V{x}, api.ErrRange}, {sized(api.Sext, 0, 0), []V{x}, api.ErrRange}, {sized(api.Byte, 64, 0), []V{s}, api.ErrRange}, {op(api.Cat), []V{s, txt("", 63)}, api.ErrRange}, {op(api.Replace), []V{s, s, txt("", 63)}, api.ErrRange},
		{in(""), []V{s}, api.ErrForm}, {in("'b'|'a'"), []V{s}, api.ErrForm}, {in("none"), []V{x}, api.ErrSort}, {in("?"), []V{s, s}, api.ErrArg},
	} {
		kids, changed := roomyValues(k.kids)
		if v, e := eval.Node(k.n, kids); !same(v, V{}) || e != k.e {
			t.Errorf("%d: %v, %d, not %d", i, v, e, k.e)
		}
		if changed() {
			t.Errorf("%d: %v has changed the values", i, k.n)
		}
	}
}

// P8.2: more kids than an operation, or a graph, can have.
func TestManyKids(t *testing.T) {
	for _, size := range []int{4, 4095, 4096, 4097, 100000} {
		kids := slices.Repeat([]V{num(1, 1)}, size)
		for o := range api.Char + 2 {
			if v, e := eval.Node(op(o), kids); !same(v, V{}) || e != api.ErrArg {
				t.Errorf("%d with %d kids: %v, %d", o, size, v, e)
			}
		}
		kids[size-1].U = 2
		kids[size-1].Sort.N = 0
		if v, e := eval.Node(op(api.Not), kids); !same(v, V{}) || e != api.ErrSort {
			t.Errorf("with a bad one at the end of %d: %v, %d", size, v, e)
		}
	}
}

// P8.2: against the table of the chapter, for nodes that fit, and for those with faults.
func TestNodeReference(t *testing.T) {
	r := random(1)
	for i := range 40000 {
		n, kids := randomApplied(r)
		if i%4 == 0 {
			spoil(r.IntN, &n, &kids)
		}
		got, e := eval.Node(n, kids)
		want, f := reference(n, kids)
		if e != f || !same(got, want) {
			t.Fatalf("%v of %v: %v, %d, not %v, %d", n, kids, got, e, want, f)
		}
		if e == api.OK && value.Valid(got) != api.OK {
			t.Fatalf("%v of %v: %v is not valid", n, kids, got)
		}
	}
}

// spoil changes something in a node or in the values of its kids.
func spoil(pick func(n int) int, n *N, kids *[]V) {
	switch pick(8) {
	case 0:
		n.Op = pick(api.Char+4) - 2
	case 1:
		n.N += pick(5) - 2
	case 2:
		n.M += pick(5) - 2
	case 3:
		n.U ^= uint64(pick(5))
	case 4:
		n.Text += []string{"", "a", "|"}[pick(3)]
	case 5:
		n.Sort = []S{bv(pick(66)), str(pick(66)), arr(pick(66), pick(18))}[pick(3)]
	case 6:
		*kids = append(*kids, num(1, 1))
	case 7:
		if len(*kids) == 0 {
			return
		}
		k := &(*kids)[pick(len(*kids))]
		switch pick(4) {
		case 0:
			k.Sort.N += pick(5) - 2
		case 1:
			k.U ^= uint64(pick(5))
		case 2:
			k.S += "a"
		case 3:
			k.Map = append(slices.Clone(k.Map), bit(uint64(pick(5)), 1))
		}
	}
}

// reference is P8.2, word by word.
func reference(n N, kids []V) (V, api.Errno) {
	for _, k := range kids {
		if e := value.Valid(k); e != api.OK {
			return V{}, e
		}
	}
	if n.Op == api.Var {
		return V{}, api.ErrArg
	}
	s, e := sortOver(n, kids)
	if e != api.OK {
		return V{}, e
	}
	return meaning(n, s, kids), api.OK
}

// strings2 are all strings of a and b up to a length.
func strings2(most int) []string {
	all := []string{""}
	for i := 0; len(all[i]) < most; i++ {
		all = append(all, all[i]+"a", all[i]+"b")
	}
	return all
}

// P8.2: the operations of strings, for all short ones.
func TestShortStrings(t *testing.T) {
	try := func(n N, kids ...V) {
		t.Helper()
		got, e := eval.Node(n, kids)
		if want, _ := reference(n, kids); e != api.OK || !same(got, want) {
			t.Fatalf("%v of %v: %v, %d, not %v", n, kids, got, e, want)
		}
	}
	for _, x := range strings2(5) {
		for _, y := range strings2(3) {
			p, q := txt(x, 5), txt(y, 3)
			try(op(api.Find), p, q)
			try(op(api.Find), q, p)
			try(op(api.Eq), p, q)
			try(op(api.Cat), p, q)
			for _, z := range strings2(2) {
				try(op(api.Replace), p, q, txt(z, 2))
				try(op(api.Replace), q, txt(z, 2), p)
			}
		}
		for from := range uint64(128) {
			for _, most := range []uint64{0, 1, 2, 3, 4, 5, 6, 64, 126, 127} {
				try(op(api.Sub), txt(x, 5), num(from, 7), num(most, 7))
			}
		}
		for i := range 64 {
			try(sized(api.Byte, i, 0), txt(x, 64))
		}
		try(op(api.Len), txt(x, 5))
	}
	for u := range uint64(256) {
		try(op(api.Char), num(u, 8))
	}
}

// P8.9: lengths of Cat, Sub of Cat, what is found, and Replace of a string by itself.
func TestStrings(t *testing.T) {
	r := random(2)
	node := func(n N, kids ...V) V {
		t.Helper()
		v, e := eval.Node(n, kids)
		if e != api.OK {
			t.Fatalf("%v of %v: %d", n, kids, e)
		}
		return v
	}
	for range 5000 {
		x, y := txt(randomString(r, 32), 32), txt(randomString(r, 2+r.IntN(30)), 32)
		cat := node(op(api.Cat), x, y)
		length, other := node(op(api.Len), x), node(op(api.Len), y)
		if sum := node(op(api.Add), length, other); !same(node(op(api.Len), cat), sum) {
			t.Fatalf("the length of %v", cat)
		}
		if first := node(op(api.Sub), cat, num(0, 7), length); first.S != x.S {
			t.Fatalf("%v begins with %v, not with %v", cat, first, x)
		}
		if at := node(op(api.Find), x, y); at.U != 127 {
			if found := node(op(api.Sub), x, at, other); found.S != y.S {
				t.Fatalf("%v is found in %v at %d, where %v is", y, x, at.U, found)
			}
		} else if strings.Contains(x.S, y.S) {
			t.Fatalf("%v is not found in %v", y, x)
		}
		if again := node(op(api.Replace), x, y, y); again.S != x.S {
			t.Fatalf("%v with %v by itself is %v", x, y, again)
		}
	}
}

// P8.10: Select of Store, and Diff of arrays.
func TestArrays(t *testing.T) {
	r := random(3)
	node := func(n N, kids ...V) V {
		t.Helper()
		v, e := eval.Node(n, kids)
		if e != api.OK {
			t.Fatalf("%v of %v: %d", n, kids, e)
		}
		return v
	}
	for range 500 {
		a := randomValue(r, randomArray(r))
		b := varied(r, a)
		at, v := randomValue(r, bv(a.Sort.Index)), randomValue(r, element(a, 0).Sort)
		stored := node(op(api.Store), a, at, v)
		for i := range uint64(1) << a.Sort.Index {
			want := node(op(api.Select), a, num(i, a.Sort.Index))
			if i == at.U {
				want = v
			}
			if got := node(op(api.Select), stored, num(i, a.Sort.Index)); !same(got, want) {
				t.Fatalf("%v with %v at %d has %v at %d", a, v, at.U, got, i)
			}
		}
		d := node(op(api.Diff), a, b)
		there := node(op(api.Eq), node(op(api.Select), a, d), node(op(api.Select), b, d))
		if all := node(op(api.Eq), a, b); !same(all, there) {
			t.Fatalf("%v and %v: equal: %v, at %d: %v", a, b, all, d.U, there)
		}
	}
}
