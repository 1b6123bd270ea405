package parse_test

import (
	"math/rand/v2"
	"slices"
	"strconv"
	"strings"
	"testing"

	"enthymeme/api"
	"enthymeme/lexer"
	"enthymeme/parse"
	"enthymeme/term"
)

type (
	G = term.Graph
	N = api.Node
	S = api.Sort
	C = parse.Command
)

// The kinds of commands, by their numbers in the chapter.
const (
	Declare = iota
	Assert
	Edit
	Retract
	Push
	Pop
	Check
)

// bv, str, arr and ars are the four kinds of sorts.
func bv(n int) S         { return S{Kind: api.BV, N: n} }
func str(n int) S        { return S{Kind: api.Str, N: n} }
func arr(index, n int) S { return S{Kind: api.Arr, N: n, Index: index} }
func ars(index, n int) S { return S{Kind: api.Ars, N: n, Index: index} }

// variable is one of a sort.
func variable(name string, s S) N { return N{Op: api.Var, Text: name, Sort: s} }

// num is a number with a width.
func num(u uint64, width int) N { return N{Op: api.Num, U: u, Sort: bv(width)} }

// text is a string.
func text(s string) N { return N{Op: api.Text, Text: s, Sort: str(len(s))} }

// op is an operation that has only kids.
func op(o int, s S, kids ...int) N { return N{Op: o, Kids: kids, Sort: s} }

// declared, asserted, edited and check are commands.
func declared(name string, s S, node int) C { return C{Kind: Declare, Name: name, Sort: s, Node: node} }
func asserted(name string, node int) C      { return C{Kind: Assert, Name: name, Node: node} }
func edited(name string, node int) C        { return C{Kind: Edit, Name: name, Node: node} }
func retracted(name string) C               { return C{Kind: Retract, Name: name} }
func checked(n int) C                       { return C{Kind: Check, N: n} }

// same compares nodes field by field; no kids are nil or empty.
func same(a, b N) bool {
	return a.Op == b.Op && slices.Equal(a.Kids, b.Kids) && a.N == b.N && a.M == b.M && a.U == b.U && a.Text == b.Text && a.Sort == b.Sort
}

// alike compares graphs.
func alike(g, h G) bool { return slices.EqualFunc(g.Nodes, h.Nodes, same) }

// begins reports whether a graph begins with the nodes of another one.
func begins(g, h G) bool {
	return len(g.Nodes) >= len(h.Nodes) && alike(G{Nodes: g.Nodes[:len(h.Nodes)]}, h)
}

// equal compares scripts.
func equal(a, b parse.Script) bool {
	return alike(a.Graph, b.Graph) && slices.Equal(a.Commands, b.Commands)
}

// script returns the script of a text that has to be right.
func script(t *testing.T, s string) parse.Script {
	t.Helper()
	x, at, e := parse.Parse(s)
	if at != 0 || e != api.OK {
		t.Fatalf("%.2000q: %d, %d", s, at, e)
	}
	return x
}

// termOver returns the graph and the node of a term that has to be right.
func termOver(t *testing.T, g G, s string) (G, int) {
	t.Helper()
	h, node, at, e := parse.Term(g, s)
	if at != 0 || e != api.OK {
		t.Fatalf("%.2000q: %d, %d", s, at, e)
	}
	return h, node
}

// fails checks the error of a text of commands.
func fails(t *testing.T, s string, at int, e api.Errno) {
	t.Helper()
	if x, gotAt, got := parse.Parse(s); len(x.Graph.Nodes) != 0 || len(x.Commands) != 0 || gotAt != at || got != e {
		t.Errorf("%.500q: %.200v, %d, %d, not %d, %d", s, x, gotAt, got, at, e)
	}
}

// termFails checks the error of a text of a term.
func termFails(t *testing.T, g G, s string, at int, e api.Errno) {
	t.Helper()
	if h, node, gotAt, got := parse.Term(g, s); len(h.Nodes) != 0 || node != 0 || gotAt != at || got != e {
		t.Errorf("%.500q: %.200v, %d, %d, %d, not %d, %d", s, h, node, gotAt, got, at, e)
	}
}

// unmarked returns a text without the ^, which is no part of it, ahead of the offset of its error, and this offset.
func unmarked(t *testing.T, marked string) (string, int) {
	t.Helper()
	before, behind, ok := strings.Cut(marked, "^")
	if !ok || strings.Contains(behind, "^") {
		t.Fatalf("%q has not one mark", marked)
	}
	return before + behind, len(before)
}

// failing checks texts of commands, with marks, behind others.
func failing(t *testing.T, before string, e api.Errno, texts ...string) {
	t.Helper()
	for _, marked := range texts {
		s, at := unmarked(t, marked)
		fails(t, before+s, len(before)+at, e)
	}
}

// graph builds a graph of nodes that are all new.
func graph(t *testing.T, nodes ...N) G {
	t.Helper()
	var g G
	for i, n := range nodes {
		h, number, e := term.Add(g, n)
		if number != i || e != api.OK {
			t.Fatalf("node %d: %d, %d", i, number, e)
		}
		g = h
	}
	return g
}

// words are those of the operations, in the order of their numbers; the first four have none, or are none.
var words = []string{
	"", "num", "", "zero", "not", "neg", "and", "or", "xor", "add", "mul", "udiv", "urem", "shl", "lshr", "ashr", "ult", "slt", "eq", "ite",
	"concat", "extract", "zext", "sext", "select", "store", "diff", "len", "byte", "cat", "sub", "find", "replace", "in", "char",
}

// sortText is what chapter 11 says of the text of a sort.
func sortText(s S) string {
	n, index := strconv.Itoa(s.N), strconv.Itoa(s.Index)
	return [...]string{api.BV: "(bv " + n + ")", api.Str: "(str " + n + ")", api.Arr: "(arr " + index + " " + n + ")", api.Ars: "(ars " + index + " " + n + ")"}[s.Kind]
}

// digits is what chapter 3 says of the text of a bit-vector.
func digits(u uint64, width int) string {
	base, size, mark := 2, width, "#b"
	if width%4 == 0 {
		base, size, mark = 16, width/4, "#x"
	}
	s := strconv.FormatUint(u, base)
	return mark + strings.Repeat("0", size-len(s)) + s
}

// quoted is a string in quotation marks.
func quoted(s string) string {
	q, _ := lexer.Quote(s)
	return q
}

// nodeText is what chapter 11 says of the text of a node, which is built of those of its kids.
func nodeText(n N, kids []string) string {
	parts := []string{words[n.Op]}
	switch n.Op {
	case api.Var:
		return n.Text
	case api.Num:
		return digits(n.U, n.Sort.N)
	case api.Text:
		return quoted(n.Text)
	case api.Zero:
		parts = append(parts, sortText(n.Sort))
	case api.Extract:
		parts = append(parts, strconv.Itoa(n.N), strconv.Itoa(n.M))
	case api.Zext, api.Sext, api.Byte:
		parts = append(parts, strconv.Itoa(n.N))
	case api.In:
		parts = append(parts, quoted(n.Text))
	}
	return "(" + strings.Join(append(parts, kids...), " ") + ")"
}

// texts are those of all nodes, and their depths; texts of more than 65536 bytes are empty, and so are those that they would be in.
func texts(g G) ([]string, []int) {
	all, depths := make([]string, len(g.Nodes)), make([]int, len(g.Nodes))
	for i, n := range g.Nodes {
		var kids []string
		long := false
		if n.Op > api.Text {
			depths[i] = 1
		}
		for _, k := range n.Kids {
			kids = append(kids, all[k])
			long = long || all[k] == ""
			depths[i] = max(depths[i], depths[k]+1)
		}
		if s := nodeText(n, kids); !long && len(s) <= 65536 {
			all[i] = s
		}
	}
	return all, depths
}

// pick returns one of some elements.
func pick[E any](r *rand.Rand, l ...E) E { return l[r.IntN(len(l))] }

// drawn returns bytes of an alphabet.
func drawn(r *rand.Rand, n int, alphabet string) string {
	var s []byte
	for range n {
		s = append(s, alphabet[r.IntN(len(alphabet))])
	}
	return string(s)
}

// random returns a source of random numbers.
func random(seed uint64) *rand.Rand {
	return rand.New(rand.NewPCG(10, seed))
}
