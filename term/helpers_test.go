package term_test

import (
	"crypto/sha256"
	"fmt"
	"math/rand/v2"
	"slices"
	"strings"
	"testing"

	"enthymeme/api"
	"enthymeme/regex"
	"enthymeme/term"
	"enthymeme/value"
)

type (
	G = term.Graph
	N = api.Node
	S = api.Sort
)

// operations are all of them, with the words by which tests name them.
var operations = []string{
	"var", "num", "text", "zero", "not", "neg", "and", "or", "xor", "add", "mul", "udiv", "urem", "shl", "lshr", "ashr", "ult", "slt", "eq", "ite",
	"concat", "extract", "zext", "sext", "select", "store", "diff", "len", "byte", "cat", "sub", "find", "replace", "in", "char",
}

// bv, str, arr and ars are the four kinds of sorts.
func bv(n int) S         { return S{Kind: api.BV, N: n} }
func str(n int) S        { return S{Kind: api.Str, N: n} }
func arr(n, index int) S { return S{Kind: api.Arr, N: n, Index: index} }
func ars(n, index int) S { return S{Kind: api.Ars, N: n, Index: index} }

// variable is one of a sort.
func variable(name string, s S) N {
	return N{Op: api.Var, Text: name, Sort: s}
}

// num is a number with a width.
func num(u uint64, width int) N {
	return N{Op: api.Num, U: u, Sort: bv(width)}
}

// op is an operation that has only kids.
func op(o int, kids ...int) N {
	return N{Op: o, Kids: kids}
}

// sized is an operation with numbers.
func sized(o, n, m int, kids ...int) N {
	return N{Op: o, N: n, M: m, Kids: kids}
}

// sorted is a node with a sort.
func sorted(n N, s S) N {
	n.Sort = s
	return n
}

// same compares nodes field by field; no kids are nil or empty.
func same(a, b N) bool {
	return a.Op == b.Op && slices.Equal(a.Kids, b.Kids) && a.N == b.N && a.M == b.M && a.U == b.U && a.Text == b.Text && a.Sort == b.Sort
}

// alike compares graphs.
func alike(g, h G) bool {
	return slices.EqualFunc(g.Nodes, h.Nodes, same)
}

// begins reports whether a graph begins with the nodes of another one.
func begins(g, with G) bool {
	return len(g.Nodes) >= len(with.Nodes) && alike(part(g, len(with.Nodes)), with)
}

// part returns the first nodes of a graph.
func part(g G, n int) G {
	return G{g.Nodes[:n]}
}

// copied returns a graph that shares no memory.
func copied(g G) G {
	var c G
	for _, n := range g.Nodes {
		n.Kids = slices.Clone(n.Kids)
		c.Nodes = append(c.Nodes, n)
	}
	return c
}

// roomy returns a graph whose nodes are followed by others in memory, and a function that reports whether any of these, or of its own, has been changed.
func roomy(g G) (G, func() bool) {
	var all G
	for _, n := range g.Nodes {
		n.Kids = append(slices.Clone(n.Kids), -7)[:len(n.Kids)]
		all.Nodes = append(all.Nodes, n)
	}
	all.Nodes = append(all.Nodes, N{Op: 77}, N{}, N{Op: 78})
	before := copied(all)
	return part(all, len(g.Nodes)), func() bool { return !alike(all, before) }
}

// numbers returns 0, 1, 2 and so on.
func numbers(n int) []int {
	l := make([]int, n)
	for i := range l {
		l[i] = i
	}
	return l
}

// graph returns the graph to which nodes add up.
func graph(t testing.TB, nodes ...N) G {
	t.Helper()
	var g G
	for i, n := range nodes {
		h, number, e := term.Add(g, n)
		if e != api.OK || number != i {
			t.Fatalf("node %d, %v: number %d, error %d", i, n, number, e)
		}
		g = h
	}
	return g
}

// fullGraph returns a graph of 4096 nodes: a variable of 12 bits, and the numbers from 0 to 4094.
func fullGraph() G {
	g := G{[]N{variable("x", bv(12))}}
	for u := range uint64(4095) {
		g.Nodes = append(g.Nodes, num(u, 12))
	}
	return g
}

// isName is what the chapter says of names.
func isName(s string) bool {
	if len(s) == 0 || len(s) > 16 {
		return false
	}
	for i, c := range []byte(s) {
		small, digit := c >= 'a' && c <= 'z', c >= '0' && c <= '9'
		if !small && (i == 0 || !digit && c != '-') {
			return false
		}
	}
	return true
}

// row is what the table of the chapter says of an operation, for kids of the sorts k, and other fields of the node n.
type row struct {
	kids   int
	fields string                   // of N, M, U and T for Text
	needs  func(n N, k []S) bool    // of the sorts
	within func(n N, k []S) bool    // of the numbers
	sort   func(n N, k []S) (s S)   // of the node
	others func(g G, n N) api.Errno // what else can be wrong
}

// rows is the table of the chapter.
var rows = table()

// table returns rows.
func table() map[string]row {
	isBV := func(s S) bool { return s.Kind == api.BV }
	isStr := func(s S) bool { return s.Kind == api.Str }
	isArr := func(s S) bool { return s.Kind == api.Arr || s.Kind == api.Ars }
	always := func(N, []S) bool { return true }
	x := func(n N, k []S) S { return k[0] }
	fixed := func(s S) func(N, []S) S { return func(N, []S) S { return s } }
	own := func(n N, k []S) S { return n.Sort }
	oneBV := func(n N, k []S) bool { return isBV(k[0]) }
	twoBV := func(n N, k []S) bool { return isBV(k[0]) && isBV(k[1]) && k[0].N == k[1].N }
	comparable := func(a, b S) bool { return a == b || isStr(a) && isStr(b) }
	index := func(a, i S) bool { return isBV(i) && i.N == a.Index }
	strings := func(n N, k []S) bool {
		for _, s := range k {
			if !isStr(s) {
				return false
			}
		}
		return true
	}
	extended := row{1, "N", oneBV, func(n N, k []S) bool { return n.N >= 1 && k[0].N+n.N <= 64 && n.N <= 64 }, func(n N, k []S) S { return bv(k[0].N + n.N) }, nil}

	t := map[string]row{
		"var": {0, "T", always, always, own, func(g G, n N) api.Errno {
			for _, v := range g.Nodes {
				if v.Op == api.Var && v.Text == n.Text && v.Sort != n.Sort {
					return api.ErrTwice
				}
			}
			return api.OK
		}},
		"num":     {0, "U", func(n N, k []S) bool { return isBV(n.Sort) }, func(n N, k []S) bool { return n.Sort.N == 64 || n.U < 1<<n.Sort.N }, own, nil},
		"text":    {0, "T", always, func(n N, k []S) bool { return len(n.Text) <= 64 }, func(n N, k []S) S { return str(len(n.Text)) }, nil},
		"zero":    {0, "", func(n N, k []S) bool { return isArr(n.Sort) }, always, own, nil},
		"ult":     {2, "", twoBV, always, fixed(bv(1)), nil},
		"slt":     {2, "", twoBV, always, fixed(bv(1)), nil},
		"eq":      {2, "", func(n N, k []S) bool { return comparable(k[0], k[1]) }, always, fixed(bv(1)), nil},
		"ite":     {3, "", func(n N, k []S) bool { return k[0] == bv(1) && comparable(k[1], k[2]) }, always, func(n N, k []S) S { return S{Kind: k[1].Kind, N: max(k[1].N, k[2].N), Index: k[1].Index} }, nil},
		"concat":  {2, "", func(n N, k []S) bool { return isBV(k[0]) && isBV(k[1]) }, func(n N, k []S) bool { return k[0].N+k[1].N <= 64 }, func(n N, k []S) S { return bv(k[0].N + k[1].N) }, nil},
		"extract": {1, "NM", oneBV, func(n N, k []S) bool { return 0 <= n.M && n.M <= n.N && n.N < k[0].N }, func(n N, k []S) S { return bv(n.N - n.M + 1) }, nil},
		"zext":    extended,
		"sext":    extended,
		"select":  {2, "", func(n N, k []S) bool { return isArr(k[0]) && index(k[0], k[1]) }, always, func(n N, k []S) S { return S{Kind: k[0].Kind - api.Arr, N: k[0].N} }, nil},
		"store": {3, "", func(n N, k []S) bool {
			bits, text := k[0].Kind == api.Arr && isBV(k[2]) && k[2].N == k[0].N, k[0].Kind == api.Ars && isStr(k[2]) && k[2].N <= k[0].N
			return index(k[0], k[1]) && (bits || text)
		}, always, x, nil},
		"diff":    {2, "", func(n N, k []S) bool { return isArr(k[0]) && k[0] == k[1] }, always, func(n N, k []S) S { return bv(k[0].Index) }, nil},
		"len":     {1, "", strings, always, fixed(bv(7)), nil},
		"byte":    {1, "N", strings, func(n N, k []S) bool { return n.N >= 0 && n.N <= 63 }, fixed(bv(8)), nil},
		"cat":     {2, "", strings, func(n N, k []S) bool { return k[0].N+k[1].N <= 64 }, func(n N, k []S) S { return str(k[0].N + k[1].N) }, nil},
		"sub":     {3, "", func(n N, k []S) bool { return isStr(k[0]) && k[1] == bv(7) && k[2] == bv(7) }, always, x, nil},
		"find":    {2, "", strings, always, fixed(bv(7)), nil},
		"replace": {3, "", strings, func(n N, k []S) bool { return k[0].N+k[2].N <= 64 }, func(n N, k []S) S { return str(k[0].N + k[2].N) }, nil},
		"in":      {1, "T", strings, always, fixed(bv(1)), func(g G, n N) api.Errno { return normalText(n.Text) }},
		"char":    {1, "", func(n N, k []S) bool { return k[0] == bv(8) }, always, fixed(str(1)), nil},
	}
	for _, word := range []string{"not", "neg"} {
		t[word] = row{1, "", oneBV, always, x, nil}
	}
	for _, word := range []string{"and", "or", "xor", "add", "mul", "udiv", "urem", "shl", "lshr", "ashr"} {
		t[word] = row{2, "", twoBV, always, x, nil}
	}
	return t
}

// normalText is the error of a text that is not one of a regular expression in normal form.
func normalText(s string) api.Errno {
	r, _, e := regex.Parse(s)
	if e == api.OK {
		r, e = regex.Normal(r)
	}
	if e == api.OK {
		if p, _ := regex.Print(r); p == s {
			return api.OK
		}
	}
	return api.ErrForm
}

// sortOf is P7.1, word by word.
func sortOf(g G, n N) (S, api.Errno) {
	if n.Op < 0 || n.Op >= len(operations) {
		return S{}, api.ErrArg
	}
	word := operations[n.Op]
	w := rows[word]
	has := func(field string) bool { return strings.Contains(w.fields, field) }
	if len(n.Kids) != w.kids || !has("N") && n.N != 0 || !has("M") && n.M != 0 || !has("U") && n.U != 0 || !has("T") && n.Text != "" {
		return S{}, api.ErrArg
	}
	var k []S
	for _, kid := range n.Kids {
		if kid < 0 || kid >= len(g.Nodes) {
			return S{}, api.ErrArg
		}
		k = append(k, g.Nodes[kid].Sort)
	}
	if word == "var" && !isName(n.Text) {
		return S{}, api.ErrName
	}
	if word == "var" || word == "num" || word == "zero" {
		if e := value.ValidSort(n.Sort); e != api.OK {
			return S{}, e
		}
	}
	if !w.needs(n, k) {
		return S{}, api.ErrSort
	}
	if !w.within(n, k) {
		return S{}, api.ErrRange
	}
	if w.others != nil {
		if e := w.others(g, n); e != api.OK {
			return S{}, e
		}
	}
	return w.sort(n, k), api.OK
}

// edgeSorts are valid sorts around all sizes that matter.
func edgeSorts() []S {
	var l []S
	for _, n := range []int{1, 2, 7, 8, 9, 16, 31, 32, 33, 63, 64} {
		l = append(l, bv(n))
	}
	for _, n := range []int{0, 1, 2, 7, 8, 31, 32, 33, 63, 64} {
		l = append(l, str(n))
	}
	return append(l, arr(1, 1), arr(8, 1), arr(8, 7), arr(8, 8), arr(64, 16), arr(7, 8), arr(1, 7), ars(0, 1), ars(8, 7), ars(8, 8), ars(64, 16), ars(1, 7), ars(7, 8), ars(31, 2))
}

// variables returns a graph with a variable of each of some sorts.
func variables(sorts []S) G {
	var g G
	for i, s := range sorts {
		g.Nodes = append(g.Nodes, variable("v"+fmt.Sprint(i), s))
	}
	return g
}

// texts of regular expressions in normal form.
var normalTexts = []string{"none", "empty", "'a'", "['a'-'z']", "'a'*'b'", "'a'|'b'", "!none", "\\x00", "!'a'&!'b'"}

// randomNode returns a node, which may have any error, over a graph that is not empty.
func randomNode(r *rand.Rand, g G) N {
	pool := []S{bv(1), bv(2), bv(7), bv(8), bv(64), str(0), str(1), str(5), str(64), arr(8, 2), arr(1, 7), ars(5, 2), ars(0, 1)}
	n := N{Op: r.IntN(len(operations))}
	for range rows[operations[n.Op]].kids {
		n.Kids = append(n.Kids, r.IntN(len(g.Nodes)))
	}
	switch n.Op {
	case api.Var, api.Zero:
		n.Sort = pool[r.IntN(len(pool))]
		if n.Op == api.Var {
			n.Text = []string{"x", "a-b", "b", "k", "p", "d"}[r.IntN(6)]
		}
	case api.Num:
		n.Sort = bv(1 + r.IntN(8))
		n.U = r.Uint64N(1 << n.Sort.N)
	case api.Text:
		n.Text = strings.Repeat("\x00a\xff", 21)[:r.IntN(63)]
	case api.In:
		n.Text = normalTexts[r.IntN(len(normalTexts))]
	case api.Extract:
		n.M = r.IntN(g.Nodes[n.Kids[0]].Sort.N + 1)
		n.N = n.M + r.IntN(4)
	case api.Zext, api.Sext, api.Byte:
		n.N = r.IntN(9)
	}
	return n
}

// randomGraph returns a valid graph with a number of nodes, with variables of several sorts.
func randomGraph(r *rand.Rand, size int) G {
	// The names tell the sorts, so that graphs can be joined.
	first := []N{variable("b", bv(1)), variable("c", bv(1)), variable("s", bv(7)), variable("t", bv(7)), variable("k", bv(8)), variable("l", bv(8)), variable("i", bv(2)), variable("j", bv(2)), variable("p", str(5)), variable("q", str(5)), variable("d", arr(8, 2)), variable("e", arr(8, 2)), variable("f", ars(5, 2)), variable("g", ars(5, 2))}
	r.Shuffle(len(first), func(i, j int) { first[i], first[j] = first[j], first[i] })
	g := G{first[:min(size, 4+r.IntN(len(first)-3))]}
	for len(g.Nodes) < size {
		n := randomNode(r, g)
		if n.Op == api.Var {
			continue
		}
		// Most nodes fit nowhere: only those that do are added.
		if s, e := term.SortOf(g, n); e == api.OK {
			n.Sort = s
			if !slices.ContainsFunc(g.Nodes, func(x N) bool { return same(x, n) }) {
				g.Nodes = append(g.Nodes, n)
			}
		}
	}
	return g
}

// terms returns for each node of a graph what tells the terms of all graphs apart, where some variables stand for nodes.
func terms(g G, vars map[int]int) []string {
	written := func(n N, kid func(i int) string) string {
		s := fmt.Sprint(n.Op, n.N, n.M, n.U, n.Sort, len(n.Text), n.Text)
		for _, k := range n.Kids {
			s += " " + kid(k)
		}
		return fmt.Sprintf("%x", sha256.Sum256([]byte(s)))
	}
	before := make([]string, len(g.Nodes))
	for i, n := range g.Nodes {
		before[i] = written(n, func(k int) string { return before[k] })
	}
	after := make([]string, len(g.Nodes))
	for i, n := range g.Nodes {
		if k, found := vars[i]; found {
			after[i] = before[k]
			continue
		}
		after[i] = written(n, func(k int) string { return after[k] })
	}
	return after
}

// random returns a source of random numbers.
func random(seed uint64) *rand.Rand {
	return rand.New(rand.NewPCG(7, seed))
}
