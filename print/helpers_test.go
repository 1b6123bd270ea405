package print_test

import (
	"fmt"
	"math/big"
	"math/rand/v2"
	"slices"
	"strings"
	"testing"

	"enthymeme/api"
	"enthymeme/parse"
	"enthymeme/print"
	"enthymeme/term"
)

type (
	G = term.Graph
	N = api.Node
	S = api.Sort
	C = parse.Command
)

// bv, str, arr and ars are the four kinds of sorts.
func bv(n int) S         { return S{Kind: api.BV, N: n} }
func str(n int) S        { return S{Kind: api.Str, N: n} }
func arr(index, n int) S { return S{Kind: api.Arr, N: n, Index: index} }
func ars(index, n int) S { return S{Kind: api.Ars, N: n, Index: index} }

// variable is one of a sort.
func variable(name string, s S) N { return N{Op: api.Var, Text: name, Sort: s} }

// num is a number with a width.
func num(u uint64, width int) N { return N{Op: api.Num, U: u, Sort: bv(width)} }

// text is a string.
func text(s string) N { return N{Op: api.Text, Text: s} }

// op is an operation that has only kids.
func op(o int, kids ...int) N { return N{Op: o, Kids: kids} }

// sized is an operation with numbers.
func sized(o, n, m int, kids ...int) N { return N{Op: o, N: n, M: m, Kids: kids} }

// in is an In of a text of a regular expression.
func in(text string, kid int) N { return N{Op: api.In, Text: text, Kids: []int{kid}} }

// declare, assert, edit, retract and check are commands.
func declare(name string, s S, node int) C {
	return C{Kind: parse.Declare, Name: name, Sort: s, Node: node}
}
func assert(name string, node int) C { return C{Kind: parse.Assert, Name: name, Node: node} }
func edit(name string, node int) C   { return C{Kind: parse.Edit, Name: name, Node: node} }
func retract(name string) C          { return C{Kind: parse.Retract, Name: name} }
func check(n int) C                  { return C{Kind: parse.Check, N: n} }

// push and pop are commands.
var push, pop = C{Kind: parse.Push}, C{Kind: parse.Pop}

// graph builds a graph of nodes that are all new.
func graph(t *testing.T, nodes ...N) G {
	t.Helper()
	var g G
	for i, n := range nodes {
		h, number, e := term.Add(g, n)
		if number != i || e != api.OK {
			t.Fatalf("node %d: %d, %d", i, number, e)
		}
		g = h
	}
	return g
}

// chain is a graph of some nodes, and behind them as many others, each of them of an operation with the last one as all its kids.
func chain(t *testing.T, links, o, kids int, nodes ...N) G {
	t.Helper()
	g := graph(t, nodes...)
	for range links {
		last := len(g.Nodes) - 1
		n := op(o, slices.Repeat([]int{last}, kids)...)
		n.Sort = g.Nodes[last].Sort
		g.Nodes = append(g.Nodes, n)
	}
	if e := term.Valid(g); e != api.OK {
		t.Fatal(e)
	}
	return g
}

// same compares nodes field by field; no kids are nil or empty.
func same(a, b N) bool {
	return a.Op == b.Op && slices.Equal(a.Kids, b.Kids) && a.N == b.N && a.M == b.M && a.U == b.U && a.Text == b.Text && a.Sort == b.Sort
}

// alike compares graphs.
func alike(g, h G) bool { return slices.EqualFunc(g.Nodes, h.Nodes, same) }

// copied is a script that shares no memory.
func copied(s parse.Script) parse.Script {
	var c parse.Script
	for _, n := range s.Graph.Nodes {
		n.Kids = slices.Clone(n.Kids)
		c.Graph.Nodes = append(c.Graph.Nodes, n)
	}
	c.Commands = slices.Clone(s.Commands)
	return c
}

// words are those of the operations, in the order of their numbers; the first three are written without one.
var words = []string{
	"", "", "", "zero", "not", "neg", "and", "or", "xor", "add", "mul", "udiv", "urem", "shl", "lshr", "ashr", "ult", "slt", "eq", "ite",
	"concat", "extract", "zext", "sext", "select", "store", "diff", "len", "byte", "cat", "sub", "find", "replace", "in", "char",
}

// sortText is what the chapter says of the text of a sort.
func sortText(s S) string {
	return fmt.Sprintf([]string{"(bv %[1]d)", "(str %[1]d)", "(arr %[2]d %[1]d)", "(ars %[2]d %[1]d)"}[s.Kind], s.N, s.Index)
}

// digits is what chapter 3 says of the text of a bit-vector.
func digits(u uint64, width int) string {
	if width%4 == 0 {
		return fmt.Sprintf("#x%0*x", width/4, u)
	}
	return fmt.Sprintf("#b%0*b", width, u)
}

// quoted is what chapter 9 says of a string in quotation marks.
func quoted(s string) string {
	q := `"`
	for _, c := range []byte(s) {
		switch {
		case c < 32 || c > 126:
			q += fmt.Sprintf(`\x%02x`, c)
		case c == '"' || c == '\\':
			q += `\` + string(rune(c))
		default:
			q += string(rune(c))
		}
	}
	return q + `"`
}

// head is what the text of a node has before its kids, without a parenthesis.
func head(n N) string {
	switch n.Op {
	case api.Var:
		return n.Text
	case api.Num:
		return digits(n.U, n.Sort.N)
	case api.Text:
		return quoted(n.Text)
	case api.Zero:
		return "zero " + sortText(n.Sort)
	case api.Extract:
		return fmt.Sprint("extract ", n.N, " ", n.M)
	case api.Zext, api.Sext, api.Byte:
		return fmt.Sprint(words[n.Op], " ", n.N)
	case api.In:
		return "in " + quoted(n.Text)
	}
	return words[n.Op]
}

// written is what the chapter says of the text of a node, which has an end.
func written(g G, node int) string {
	n := g.Nodes[node]
	s := head(n)
	for _, k := range n.Kids {
		s += " " + written(g, k)
	}
	if n.Op > api.Text {
		s = "(" + s + ")"
	}
	return s
}

// measured are the lengths of the texts of all nodes, without limits, and their depths.
func measured(g G) ([]*big.Int, []int) {
	var lengths []*big.Int
	var depths []int
	for _, n := range g.Nodes {
		length, depth := big.NewInt(int64(len(head(n)))), 0
		if n.Op > api.Text {
			length.Add(length, big.NewInt(2))
			depth = 1
		}
		for _, k := range n.Kids {
			length.Add(length, lengths[k])
			length.Add(length, big.NewInt(1))
			depth = max(depth, depths[k]+1)
		}
		lengths, depths = append(lengths, length), append(depths, depth)
	}
	return lengths, depths
}

// fits reports whether a length is no more than 65536.
func fits(length *big.Int) bool { return length.Cmp(big.NewInt(65536)) <= 0 }

// wantedTerm is P11.2, word by word.
func wantedTerm(g G, node int) (string, api.Errno) {
	if e := term.Valid(g); e != api.OK {
		return "", e
	}
	if node < 0 || node >= len(g.Nodes) {
		return "", api.ErrNone
	}
	lengths, depths := measured(g)
	if depths[node] > 64 || !fits(lengths[node]) {
		return "", api.ErrLimit
	}
	return written(g, node), api.OK
}

// isName is what chapter 7 says of names.
func isName(s string) bool {
	for i, c := range []byte(s) {
		small, other := c >= 'a' && c <= 'z', c >= '0' && c <= '9' || c == '-'
		if !small && (i == 0 || !other) {
			return false
		}
	}
	return len(s) > 0 && len(s) <= 16
}

// fields are those that commands of each kind have, by its number: N for Name, S for Sort, T for Node (a term), B for N (a budget).
var fields = []string{"NST", "NT", "NT", "N", "", "", "B"}

// wantedError is the error of a command behind others, as P11.3 lists them.
func wantedError(g G, depths []int, earlier []C, c C) api.Errno {
	if c.Kind < 0 || c.Kind >= len(fields) {
		return api.ErrArg
	}
	has := func(field string) bool { return strings.Contains(fields[c.Kind], field) }
	if !has("N") && c.Name != "" || !has("S") && c.Sort != (S{}) || !has("T") && c.Node != 0 || !has("B") && c.N != 0 {
		return api.ErrArg
	}
	if has("N") && !isName(c.Name) {
		return api.ErrName
	}
	if has("T") && (c.Node < 0 || c.Node >= len(g.Nodes)) {
		return api.ErrNone
	}
	declared := map[string]bool{}
	for _, c := range earlier {
		if c.Kind == 0 {
			declared[c.Name] = true
		}
	}
	if c.Kind == 0 {
		if n := g.Nodes[c.Node]; n.Op != api.Var || n.Text != c.Name || n.Sort != c.Sort {
			return api.ErrSort
		}
		if declared[c.Name] {
			return api.ErrTwice
		}
	}
	if c.Kind == 1 || c.Kind == 2 {
		if g.Nodes[c.Node].Sort != bv(1) {
			return api.ErrSort
		}
		needs, _ := term.Needs(g, []int{c.Node})
		for _, i := range needs {
			if n := g.Nodes[i]; n.Op == api.Var && !declared[n.Text] {
				return api.ErrName
			}
		}
	}
	if has("B") && (c.N < 0 || c.N > 1<<40) {
		return api.ErrRange
	}
	if has("T") && depths[c.Node] > 64 {
		return api.ErrLimit
	}
	return api.OK
}

// lineParts are what the line of a proper command has before and behind the text of its node.
func lineParts(c C) (string, string) {
	switch c.Kind {
	case 0:
		return "(declare " + c.Name + " " + sortText(c.Sort), ")\n"
	case 1:
		return "(assert " + c.Name + " ", ")\n"
	case 2:
		return "(edit " + c.Name + " ", ")\n"
	case 3:
		return "(retract " + c.Name, ")\n"
	case 4:
		return "(push", ")\n"
	case 5:
		return "(pop", ")\n"
	}
	return fmt.Sprint("(check ", c.N), ")\n"
}

// wantedScript is P11.3, word by word.
func wantedScript(s parse.Script) (string, api.Errno) {
	if e := term.Valid(s.Graph); e != api.OK {
		return "", e
	}
	lengths, depths := measured(s.Graph)
	for i, c := range s.Commands {
		if e := wantedError(s.Graph, depths, s.Commands[:i], c); e != api.OK {
			return "", e
		}
	}
	total := new(big.Int)
	for _, c := range s.Commands {
		a, b := lineParts(c)
		total.Add(total, big.NewInt(int64(len(a)+len(b))))
		if c.Kind == 1 || c.Kind == 2 {
			total.Add(total, lengths[c.Node])
		}
	}
	if !fits(total) {
		return "", api.ErrLimit
	}
	var text string
	for _, c := range s.Commands {
		a, b := lineParts(c)
		if c.Kind == 1 || c.Kind == 2 {
			a += written(s.Graph, c.Node)
		}
		text += a + b
	}
	return text, api.OK
}

// printsTerm checks the text of a node.
func printsTerm(t *testing.T, g G, node int, want string) {
	t.Helper()
	if s, e := print.Term(g, node); s != want || e != api.OK {
		t.Errorf("%d: %.500s, %d, not %.500s", node, s, e, want)
	}
}

// termFails checks the error of a node.
func termFails(t *testing.T, g G, node int, want api.Errno) {
	t.Helper()
	if s, e := print.Term(g, node); s != "" || e != want {
		t.Errorf("%d: %.500s, %d, not %d", node, s, e, want)
	}
}

// printsScript checks the text of commands.
func printsScript(t *testing.T, g G, want string, commands ...C) {
	t.Helper()
	if s, e := print.Script(parse.Script{Graph: g, Commands: commands}); s != want || e != api.OK {
		t.Errorf("%.500v: %.500s, %d, not %.500s", commands, s, e, want)
	}
}

// scriptFails checks the error of commands.
func scriptFails(t *testing.T, g G, want api.Errno, commands ...C) {
	t.Helper()
	if s, e := print.Script(parse.Script{Graph: g, Commands: commands}); s != "" || e != want {
		t.Errorf("%.500v: %.500s, %d, not %d", commands, s, e, want)
	}
}

// compareTerm checks the text or the error of a node against the reference, and returns them.
func compareTerm(t *testing.T, g G, node int) (string, api.Errno) {
	t.Helper()
	want, f := wantedTerm(g, node)
	s, e := print.Term(g, node)
	if s != want || e != f {
		t.Fatalf("%v: %d: %.2000s, %d, not %.2000s, %d", g, node, s, e, want, f)
	}
	return s, e
}

// compareScript checks the text or the error of a script against the reference, and returns them.
func compareScript(t *testing.T, x parse.Script) (string, api.Errno) {
	t.Helper()
	want, f := wantedScript(x)
	s, e := print.Script(x)
	if s != want || e != f {
		t.Fatalf("%v: %.2000s, %d, not %.2000s, %d", x, s, e, want, f)
	}
	return s, e
}

// pick returns one of some elements.
func pick[E any](r *rand.Rand, l ...E) E { return l[r.IntN(len(l))] }

// random returns a source of random numbers.
func random(seed uint64) *rand.Rand {
	return rand.New(rand.NewPCG(11, seed))
}
