package parse_test

import (
	"maps"
	"slices"
	"strconv"
	"strings"
	"testing"

	"enthymeme/api"
	"enthymeme/lexer"
	"enthymeme/parse"
	"enthymeme/regex"
	"enthymeme/term"
	"enthymeme/value"
)

// forms are what follows the operation words, in the grammar of the chapter.
var forms = map[string]string{
	"num": "integer integer )", "zero": "sort )", "extract": "integer integer term )", "zext": "integer term )", "sext": "integer term )", "byte": "integer term )", "in": "quoted term )",
	"not": "term )", "neg": "term )", "len": "term )", "char": "term )",
	"and": "term term )", "or": "term term )", "xor": "term term )", "add": "term term )", "mul": "term term )", "udiv": "term term )", "urem": "term term )", "shl": "term term )", "lshr": "term term )", "ashr": "term term )", "ult": "term term )", "slt": "term term )", "eq": "term term )", "concat": "term term )", "select": "term term )", "diff": "term term )", "cat": "term term )", "find": "term term )",
	"ite": "term term term )", "store": "term term term )", "sub": "term term term )", "replace": "term term term )",
}

// reference is what the chapter says of a text, form by form. The first error stays, and from then on nothing is read.
type reference struct {
	at       int
	e        api.Errno
	graph    G
	commands []C
	declared map[string]int
	defined  []defined
	begun    int
}

// defined is a macro, with all that its body can name.
type defined struct {
	name   string
	names  []string
	sorts  []S
	body   []lexer.Token
	before []defined
}

// place is where a term is read.
type place struct {
	names  map[string]int
	known  []defined
	around int
}

// stream is what is left of some tokens.
type stream struct{ left []lexer.Token }

func (x *reference) fail(t lexer.Token, e api.Errno) {
	if x.e == api.OK {
		x.at, x.e = t.At, e
	}
}

// wrong is the error at a token with which the grammar does not go on.
func (x *reference) wrong(t lexer.Token) {
	if t.Kind == lexer.End {
		x.fail(t, api.ErrMore)
	}
	x.fail(t, api.ErrForm)
}

// want reads a token of a kind.
func (x *reference) want(in *stream, kind int) lexer.Token {
	if x.e != api.OK {
		return lexer.Token{}
	}
	t := in.left[0]
	if t.Kind != kind {
		x.wrong(t)
		return lexer.Token{}
	}
	in.left = in.left[1:]
	return t
}

func (x *reference) integer(in *stream) int {
	n, _ := strconv.Atoi("0" + x.want(in, lexer.Integer).Text)
	return n
}

func (x *reference) sort(in *stream) S {
	first := x.want(in, lexer.Open)
	word := x.want(in, lexer.Word)
	var s S
	switch word.Text {
	case "bv":
		s = bv(x.integer(in))
	case "str":
		s = str(x.integer(in))
	case "arr":
		index := x.integer(in)
		s = arr(index, x.integer(in))
	case "ars":
		index := x.integer(in)
		s = ars(index, x.integer(in))
	default:
		x.wrong(word)
	}
	x.want(in, lexer.Close)
	if value.ValidSort(s) != api.OK {
		x.fail(first, api.ErrSort)
	}
	return s
}

// add does what term.Add does, node by node.
func (x *reference) add(first lexer.Token, n N) int {
	if x.e != api.OK {
		return 0
	}
	s, e := term.SortOf(x.graph, n)
	n.Sort = s
	if e != api.OK {
		x.fail(first, e)
		return 0
	}
	for i, m := range x.graph.Nodes {
		if same(m, n) {
			return i
		}
	}
	if len(x.graph.Nodes) == 4096 {
		x.fail(first, api.ErrLimit)
		return 0
	}
	x.graph.Nodes = append(x.graph.Nodes, n)
	return len(x.graph.Nodes) - 1
}

// term reads a term.
func (x *reference) term(in *stream, p place) int {
	if x.e != api.OK {
		return 0
	}
	first := in.left[0]
	if first.Kind == lexer.Close || first.Kind == lexer.Integer || first.Kind == lexer.End {
		x.wrong(first)
		return 0
	}
	if x.begun++; x.begun > 65536 {
		x.fail(first, api.ErrLimit)
		return 0
	}
	in.left = in.left[1:]
	switch first.Kind {
	case lexer.Quoted:
		return x.add(first, N{Op: api.Text, Text: first.Text})
	case lexer.Number:
		n := N{Op: api.Num, Sort: bv(0)}
		base := map[byte]uint64{'b': 2, 'x': 16}[first.Text[1]]
		for _, c := range first.Text[2:] {
			n.U = n.U*base + uint64(strings.IndexRune("0123456789abcdef", c))
			n.Sort.N += map[byte]int{'b': 1, 'x': 4}[first.Text[1]]
		}
		return x.add(first, n)
	case lexer.Word:
		return x.name(first, p)
	}
	if p.around == 64 {
		x.fail(first, api.ErrLimit)
		return 0
	}
	p.around++
	word := x.want(in, lexer.Word)
	if form, ok := forms[word.Text]; ok {
		return x.operation(first, word.Text, form, in, p)
	}
	return x.call(first, word, in, p)
}

// name is what a name alone stands for.
func (x *reference) name(name lexer.Token, p place) int {
	if node, ok := p.names[name.Text]; ok {
		return node
	}
	if node, ok := x.declared[name.Text]; ok {
		return node
	}
	for _, m := range p.known {
		if m.name == name.Text && len(m.names) == 0 {
			return x.term(&stream{m.body}, place{nil, m.before, p.around})
		}
	}
	x.fail(name, api.ErrName)
	return 0
}

// operation reads what follows an operation word.
func (x *reference) operation(first lexer.Token, word, form string, in *stream, p place) int {
	n := N{Op: slices.Index(words, word)}
	var integers []int
	for _, part := range strings.Fields(form) {
		switch part {
		case "integer":
			integers = append(integers, x.integer(in))
		case "sort":
			n.Sort = x.sort(in)
		case "quoted":
			n.Text = x.expression(in)
		case "term":
			n.Kids = append(n.Kids, x.term(in, p))
		case ")":
			x.want(in, lexer.Close)
		}
	}
	switch word {
	case "num":
		n.U, n.Sort = uint64(integers[0]), bv(integers[1])
	case "extract":
		n.N, n.M = integers[0], integers[1]
	case "zext", "sext", "byte":
		n.N = integers[0]
	}
	return x.add(first, n)
}

// expression reads a text of a regular expression.
func (x *reference) expression(in *stream) string {
	t := x.want(in, lexer.Quoted)
	if x.e != api.OK {
		return ""
	}
	r, _, e := regex.Parse(t.Text)
	if e == api.OK {
		r, e = regex.Normal(r)
	}
	if e != api.OK {
		x.fail(t, e)
		return ""
	}
	s, _ := regex.Print(r)
	return s
}

// call reads what follows the name of a macro, and its body.
func (x *reference) call(first, name lexer.Token, in *stream, p place) int {
	if x.e != api.OK {
		return 0
	}
	i := slices.IndexFunc(p.known, func(m defined) bool { return m.name == name.Text })
	if i < 0 {
		x.fail(name, api.ErrName)
		return 0
	}
	m := p.known[i]
	names := map[string]int{}
	for _, n := range m.names {
		names[n] = x.term(in, p)
	}
	x.want(in, lexer.Close)
	for i, n := range m.names {
		if x.e == api.OK && x.graph.Nodes[names[n]].Sort != m.sorts[i] {
			x.fail(first, api.ErrSort)
		}
	}
	return x.term(&stream{m.body}, place{names, m.before, p.around})
}

// assertion reads the rest of an assert or an edit.
func (x *reference) assertion(kind int, in *stream) {
	name := x.want(in, lexer.Word).Text
	if x.e != api.OK {
		return
	}
	first := in.left[0]
	node := x.term(in, place{known: x.defined})
	if x.e == api.OK && x.graph.Nodes[node].Sort != bv(1) {
		x.fail(first, api.ErrSort)
	}
	x.want(in, lexer.Close)
	x.commands = append(x.commands, C{Kind: kind, Name: name, Node: node})
}

// newName reads the name of a declare or define.
func (x *reference) newName(in *stream) string {
	name := x.want(in, lexer.Word)
	_, ok := x.declared[name.Text]
	if ok || slices.ContainsFunc(x.defined, func(m defined) bool { return m.name == name.Text }) {
		x.fail(name, api.ErrTwice)
	}
	return name.Text
}

// declare reads the rest of a declare.
func (x *reference) declare(word lexer.Token, in *stream) {
	name := x.newName(in)
	s := x.sort(in)
	x.want(in, lexer.Close)
	x.declared[name] = x.add(word, variable(name, s))
	x.commands = append(x.commands, C{Kind: Declare, Name: name, Sort: s, Node: x.declared[name]})
}

// define reads the rest of a define.
func (x *reference) define(in *stream) {
	m := defined{before: x.defined}
	x.want(in, lexer.Open)
	if x.e == api.OK && len(in.left) > 0 {
		at := in.left[0]
		m.name = x.newName(in)
		if _, ok := forms[m.name]; ok {
			x.fail(at, api.ErrName)
		}
	}
	for x.e == api.OK && in.left[0].Kind == lexer.Open {
		x.want(in, lexer.Open)
		name := x.want(in, lexer.Word)
		if slices.Contains(m.names, name.Text) {
			x.fail(name, api.ErrTwice)
		}
		m.names = append(m.names, name.Text)
		m.sorts = append(m.sorts, x.sort(in))
		x.want(in, lexer.Close)
	}
	x.want(in, lexer.Close)
	m.body = x.body(in)
	x.want(in, lexer.Close)
	x.defined = append(slices.Clip(x.defined), m)
}

// body reads a body, and returns its tokens.
func (x *reference) body(in *stream) []lexer.Token {
	if x.e != api.OK {
		return nil
	}
	open := 0
	for i, t := range in.left {
		switch t.Kind {
		case lexer.Open:
			open++
		case lexer.Close:
			open--
		}
		if t.Kind == lexer.End || open < 0 {
			x.wrong(t)
			return nil
		}
		if open == 0 {
			body := in.left[: i+1 : i+1]
			in.left = in.left[i+1:]
			return body
		}
	}
	panic("no End")
}

// command reads a command.
func (x *reference) command(in *stream) {
	x.want(in, lexer.Open)
	word := x.want(in, lexer.Word)
	if x.e != api.OK {
		return
	}
	switch word.Text {
	case "declare":
		x.declare(word, in)
	case "define":
		x.define(in)
	case "assert":
		x.assertion(Assert, in)
	case "edit":
		x.assertion(Edit, in)
	case "retract":
		c := C{Kind: Retract, Name: x.want(in, lexer.Word).Text}
		x.want(in, lexer.Close)
		x.commands = append(x.commands, c)
	case "push", "pop":
		x.want(in, lexer.Close)
		x.commands = append(x.commands, C{Kind: map[string]int{"push": Push, "pop": Pop}[word.Text]})
	case "check":
		t := x.want(in, lexer.Integer)
		n, _ := strconv.Atoi("0" + t.Text)
		if n > 1099511627776 {
			x.fail(t, api.ErrRange)
		}
		x.want(in, lexer.Close)
		x.commands = append(x.commands, C{Kind: Check, N: n})
	default:
		x.wrong(word)
	}
}

// newReference returns a reference for a text over a graph, and its tokens.
func newReference(g G, s string) (*reference, *stream) {
	list, at, e := lexer.Tokens(s)
	x := &reference{at: at, e: e, graph: G{Nodes: slices.Clone(g.Nodes)}, declared: map[string]int{}}
	for i, n := range g.Nodes {
		if n.Op == api.Var {
			x.declared[n.Text] = i
		}
	}
	return x, &stream{list}
}

// referenceParse is what Parse has to return.
func referenceParse(s string) (parse.Script, int, api.Errno) {
	x, in := newReference(G{}, s)
	for x.e == api.OK && in.left[0].Kind != lexer.End {
		x.command(in)
	}
	if x.e != api.OK {
		return parse.Script{}, x.at, x.e
	}
	return parse.Script{Graph: x.graph, Commands: x.commands}, 0, api.OK
}

// referenceTerm is what Term has to return.
func referenceTerm(g G, s string) (G, int, int, api.Errno) {
	x, in := newReference(g, s)
	node := x.term(in, place{})
	x.want(in, lexer.End)
	if x.e != api.OK {
		return G{}, 0, x.at, x.e
	}
	return x.graph, node, 0, api.OK
}

// compare checks the script or the error of a text against the reference, and returns the error.
func compare(t *testing.T, s string) api.Errno {
	t.Helper()
	want, wantAt, f := referenceParse(s)
	x, at, e := parse.Parse(s)
	if !equal(x, want) || at != wantAt || e != f {
		t.Fatalf("%.5000q: %.500v, %d, %d, not %.500v, %d, %d", s, x, at, e, want, wantAt, f)
	}
	return e
}

// compareTerm does what compare does, for a term over a graph.
func compareTerm(t *testing.T, g G, s string) api.Errno {
	t.Helper()
	want, wantNode, wantAt, f := referenceTerm(g, s)
	h, node, at, e := parse.Term(g, s)
	if !alike(h, want) || node != wantNode || at != wantAt || e != f {
		t.Fatalf("%.5000q: %.500v, %d, %d, %d, not %.500v, %d, %d, %d", s, h, node, at, e, want, wantNode, wantAt, f)
	}
	return e
}

// tally counts errors, so that a test can tell whether it met them all.
type tally map[api.Errno]int

// need checks that errors were met.
func (l tally) need(t *testing.T, least int, errors ...api.Errno) {
	t.Helper()
	for _, e := range errors {
		if l[e] < least {
			t.Errorf("the error %d was met %d times: %v", e, l[e], slices.Sorted(maps.Keys(l)))
		}
	}
}
