package parse_test

import (
	"math/rand/v2"
	"slices"
	"strconv"
	"strings"

	"enthymeme/api"
)

// tree is a token, or trees in parentheses.
type tree struct {
	token string
	list  []tree
	macro *macro // what is used here, if it is a macro
	param bool   // whether it is a parameter
}

// macro is one that is defined.
type macro struct {
	name   string
	params []binding
	sort   S
	body   tree
}

// binding is a name of something with a sort.
type binding struct {
	name string
	sort S
}

// atom is a token.
func atom(s string) tree { return tree{token: s} }

// list is trees in parentheses.
func list(word string, trees ...tree) tree {
	return tree{list: append([]tree{atom(word)}, trees...)}
}

// integer is an Integer.
func integer(n int) tree { return atom(strconv.Itoa(n)) }

// sortTree is the tree of a sort.
func sortTree(s S) tree {
	parts := strings.Fields(strings.Trim(sortText(s), "()"))
	x := list(parts[0])
	for _, p := range parts[1:] {
		x.list = append(x.list, atom(p))
	}
	return x
}

// tokens are the texts of all tokens of a tree.
func (x tree) tokens() []string {
	if x.list == nil {
		return []string{x.token}
	}
	all := []string{"("}
	for _, y := range x.list {
		all = append(all, y.tokens()...)
	}
	return append(all, ")")
}

// expanded is a tree without macros and parameters.
func (x tree) expanded(terms map[string]tree) tree {
	switch {
	case x.param:
		return terms[x.token]
	case x.macro != nil:
		inner := map[string]tree{}
		for i, p := range x.macro.params {
			inner[p.name] = x.list[i+1].expanded(terms)
		}
		return x.macro.body.expanded(inner)
	case x.list == nil:
		return x
	}
	var l []tree
	for _, y := range x.list {
		l = append(l, y.expanded(terms))
	}
	return tree{list: l}
}

// written joins tokens, with spaces only where they have to be.
func written(tokens []string) string {
	var s []byte
	bare := false
	for _, x := range tokens {
		isBare := !strings.Contains(`()"`, x[:1])
		if bare && isBare {
			s = append(s, ' ')
		}
		s = append(s, x...)
		bare = isBare
	}
	return string(s)
}

// maker makes scripts that are right.
type maker struct {
	*rand.Rand
	vars   []binding
	params []binding // of the macro whose body is made
	macros []*macro
}

// sorts are those of variables and of parameters.
var sorts = []S{bv(1), bv(1), bv(1), bv(4), bv(7), bv(8), bv(8), bv(16), bv(64), str(0), str(1), str(3), str(5), str(64), arr(4, 8), arr(7, 1), arr(1, 64), ars(4, 3), ars(8, 0)}

// names are those of variables, macros and parameters. Some are words of the language.
var names = []string{"a", "b", "c", "x", "y", "z", "n-1", "v0", "bv", "str", "declare", "define", "assert", "check", "abcdefghijklmnop", "zero-0", "zzz", "e"}

// freeName is a name that no variable and no macro has.
func (m *maker) freeName(others ...string) string {
	for {
		name := pick(m.Rand, pick(m.Rand, append(slices.Clone(names), others...)...), drawn(m.Rand, 1, "abcdez")+drawn(m.Rand, m.IntN(4), "ab019-"))
		if !isOperation(name) || slices.Contains(others, name) {
			if !has(m.vars, name) && !slices.ContainsFunc(m.macros, func(x *macro) bool { return x.name == name }) {
				return name
			}
		}
	}
}

// isOperation reports whether a word is one of an operation.
func isOperation(name string) bool {
	_, ok := forms[name]
	return ok
}

// has reports whether one of some bindings is of a name.
func has(l []binding, name string) bool {
	return slices.ContainsFunc(l, func(b binding) bool { return b.name == name })
}

// operationNames are names that variables and parameters can have, but no macros.
func operationNames() []string { return []string{"not", "num", "in", "eq", "zero"} }

// term makes a term of a sort.
func (m *maker) term(s S, depth int) tree {
	if x, ok := m.named(s, depth); ok && (depth <= 0 || m.IntN(3) > 0) {
		return x
	}
	switch s.Kind {
	case api.BV:
		return m.vector(s.N, depth)
	case api.Str:
		return m.text(s.N, depth)
	}
	return m.array(s, depth)
}

// named makes a term of a sort that is a name alone, or that uses a macro.
func (m *maker) named(s S, depth int) (tree, bool) {
	var all []tree
	for _, b := range m.params {
		if b.sort == s {
			all = append(all, tree{token: b.name, param: true})
		}
	}
	for _, b := range m.vars {
		if b.sort == s && !has(m.params, b.name) {
			all = append(all, atom(b.name))
		}
	}
	for _, x := range m.macros {
		if x.sort == s && len(x.params) == 0 && !has(m.params, x.name) && m.IntN(2) == 0 {
			all = append(all, tree{token: x.name, macro: x})
		}
		if x.sort == s && depth > 0 {
			y := list(x.name)
			y.macro = x
			for _, p := range x.params {
				y.list = append(y.list, m.term(p.sort, depth-2))
			}
			all = append(all, y)
		}
	}
	if len(all) == 0 {
		return tree{}, false
	}
	return pick(m.Rand, all...), true
}

// terms makes a term of an operation.
func (m *maker) terms(word string, depth int, sorts ...S) tree {
	x := list(word)
	for _, s := range sorts {
		x.list = append(x.list, m.term(s, depth-1))
	}
	return x
}

// sized makes a term of an operation with numbers and a kid.
func (m *maker) sized(word string, depth int, s S, numbers ...int) tree {
	x := list(word)
	for _, n := range numbers {
		x.list = append(x.list, integer(n))
	}
	x.list = append(x.list, m.term(s, depth-1))
	return x
}

// number makes a term of a bit-vector without kids.
func (m *maker) number(w int) tree {
	u := m.Uint64() >> (64 - w)
	if u >= 10000000000000 || m.IntN(2) == 0 {
		if w%4 == 0 && m.IntN(2) == 0 {
			return atom("#b" + strings.Repeat("0", w-len(strconv.FormatUint(u, 2))) + strconv.FormatUint(u, 2))
		}
		return atom(digits(u, w))
	}
	return list("num", integer(int(u)), integer(w))
}

// vector makes a term of a bit-vector.
func (m *maker) vector(w, depth int) tree {
	s := bv(w)
	if depth <= 0 {
		return m.number(w)
	}
	switch k := m.IntN(12); {
	case k == 0:
		return m.number(w)
	case k == 1:
		return m.terms(pick(m.Rand, "not", "neg"), depth, s)
	case k == 2:
		return m.terms("ite", depth, bv(1), s, s)
	case k == 3 && w >= 2:
		high := 1 + m.IntN(w-1)
		return m.terms("concat", depth, bv(high), bv(w-high))
	case k == 4:
		low := m.IntN(65 - w)
		more := m.IntN(65 - w - low)
		return m.sized("extract", depth, bv(low+w+more), low+w-1, low)
	case k == 5 && w >= 2:
		n := 1 + m.IntN(w-1)
		return m.sized(pick(m.Rand, "zext", "sext"), depth, bv(w-n), n)
	case k == 6:
		index := 1 + m.IntN(16)
		return m.terms("select", depth, arr(index, w), bv(index))
	case k >= 7 && w == 1:
		return m.truth(depth)
	case k == 7 && w <= 16:
		a := pick(m.Rand, arr(w, 8), ars(w, 3))
		return m.terms("diff", depth, a, a)
	case k >= 8 && w == 7:
		return pick(m.Rand, m.terms("len", depth, m.anyText()), m.terms("find", depth, m.anyText(), m.anyText()))
	case k >= 8 && w == 8:
		return m.sized("byte", depth, m.anyText(), m.IntN(64))
	}
	return m.terms(pick(m.Rand, "and", "or", "xor", "add", "mul", "udiv", "urem", "shl", "lshr", "ashr"), depth, s, s)
}

// truth makes a term of one bit that compares.
func (m *maker) truth(depth int) tree {
	s := bv(1 + m.IntN(64))
	switch m.IntN(5) {
	case 0:
		return m.terms("ult", depth, s, s)
	case 1:
		return m.terms("slt", depth, s, s)
	case 2:
		return list("in", atom(quoted(pick(m.Rand, "'a'", "'b'|'a'", "( 'a' )*", "empty'a'", "!!none", "all()", `\x00['a'-'z']*`, `'"'`))), m.term(m.anyText(), depth-1))
	case 3:
		return m.terms("eq", depth, m.anyText(), m.anyText())
	}
	x := pick(m.Rand, sorts...)
	return m.terms("eq", depth, x, x)
}

// anyText is a sort of strings.
func (m *maker) anyText() S { return str(pick(m.Rand, 0, 1, 3, 5, 64, m.IntN(65))) }

// text makes a term of a string.
func (m *maker) text(n, depth int) tree {
	if depth <= 0 {
		return m.literal(n)
	}
	switch k := m.IntN(9); {
	case k == 0:
		return m.literal(n)
	case k == 1:
		return m.terms("ite", depth, bv(1), str(n), str(m.IntN(n+1)))
	case k == 2:
		return m.terms("ite", depth, bv(1), str(m.IntN(n+1)), str(n))
	case k <= 4:
		first := m.IntN(n + 1)
		return m.terms("cat", depth, str(first), str(n-first))
	case k == 5:
		return m.terms("sub", depth, str(n), bv(7), bv(7))
	case k == 6:
		first := m.IntN(n + 1)
		return m.terms("replace", depth, str(first), m.anyText(), str(n-first))
	case k == 7 && n == 1:
		return m.terms("char", depth, bv(8))
	}
	index := 1 + m.IntN(16)
	return m.terms("select", depth, ars(index, n), bv(index))
}

// literal makes a string in quotation marks.
func (m *maker) literal(n int) tree {
	var s []byte
	for range n {
		s = append(s, pick(m.Rand, 'a', 'b', '(', ')', '"', '\\', ';', ' ', byte(m.IntN(256))))
	}
	return atom(quoted(string(s)))
}

// array makes a term of an array.
func (m *maker) array(s S, depth int) tree {
	if depth <= 0 {
		return list("zero", sortTree(s))
	}
	element := bv(s.N)
	if s.Kind == api.Ars {
		element = str(m.IntN(s.N + 1))
	}
	switch m.IntN(4) {
	case 0:
		return list("zero", sortTree(s))
	case 1:
		return m.terms("ite", depth, bv(1), s, s)
	}
	return m.terms("store", depth, s, bv(s.Index), element)
}

// declare makes a declare.
func (m *maker) declare() tree {
	b := binding{m.freeName(operationNames()...), pick(m.Rand, sorts...)}
	m.vars = append(m.vars, b)
	return list("declare", atom(b.name), sortTree(b.sort))
}

// define makes a define.
func (m *maker) define() tree {
	x := &macro{name: m.freeName(), sort: pick(m.Rand, sorts...)}
	head := list(x.name)
	for range m.IntN(4) {
		p := binding{pick(m.Rand, append(slices.Clone(names), operationNames()...)...), pick(m.Rand, sorts...)}
		if !has(x.params, p.name) {
			x.params = append(x.params, p)
			head.list = append(head.list, list(p.name, sortTree(p.sort)))
		}
	}
	m.params = x.params
	x.body = m.term(x.sort, m.IntN(4))
	m.params = nil
	m.macros = append(m.macros, x)
	return list("define", head, x.body)
}

// command makes a command.
func (m *maker) command() tree {
	switch k := m.IntN(16); {
	case k < 3:
		return m.declare()
	case k < 6:
		return m.define()
	case k < 11:
		return list("assert", atom(pick(m.Rand, names...)), m.term(bv(1), m.IntN(5)))
	case k < 12:
		return list("edit", atom(pick(m.Rand, names...)), m.term(bv(1), m.IntN(4)))
	case k < 13:
		return list("retract", atom(pick(m.Rand, "not", "p", "check")))
	case k < 14:
		return list("push")
	case k < 15:
		return list("pop")
	}
	return list("check", atom(pick(m.Rand, "0", "1", "1099511627776", strconv.Itoa(m.IntN(1<<40)))))
}

// commands makes some commands.
func (m *maker) commands(most int) []tree {
	var l []tree
	for range m.IntN(most + 1) {
		l = append(l, m.command())
	}
	return l
}

// textOf is the text of commands.
func textOf(commands []tree) string {
	return written(tokensOf(commands))
}

// tokensOf are the tokens of commands.
func tokensOf(commands []tree) []string {
	var all []string
	for _, c := range commands {
		all = append(all, c.tokens()...)
	}
	return all
}

// randomGap is spaces and comments.
func randomGap(r *rand.Rand) string {
	var s string
	for range 1 + r.IntN(2) {
		s += pick(r, " ", " ", "\t", "\n", "\r", ";\n", "; (not \"\\\n")
	}
	return s
}

// spaced writes tokens with spaces and comments between, and returns their places, and at last that of the end.
func spaced(r *rand.Rand, tokens []string) (string, []int) {
	var s string
	var at []int
	for _, x := range tokens {
		if r.IntN(2) == 0 || s != "" && !strings.Contains(`()"`, x[:1]) {
			s += randomGap(r)
		}
		at = append(at, len(s))
		s += x
	}
	if r.IntN(2) == 0 {
		s += randomGap(r)
	}
	return s, append(at, len(s))
}

// damaged is tokens with a few changes.
func damaged(r *rand.Rand, tokens []string) []string {
	l := slices.Clone(tokens)
	for range 1 + r.IntN(2) {
		i := r.IntN(len(l) + 1)
		j := r.IntN(len(l) + 1)
		switch k := r.IntN(8); {
		case k < 2 && i < len(l):
			l = slices.Delete(l, i, i+1)
		case k < 3:
			l = slices.Insert(l, i, someToken(r, l))
		case k < 4 && i < len(l):
			l[i] = someToken(r, l)
		case k < 6 && i < len(l):
			l[i] = like(r, l[i], l)
		case k == 6 && i < len(l) && j < len(l):
			l[i], l[j] = l[j], l[i]
		case k == 7:
			l = l[:i]
		}
	}
	return l
}

// someToken is a token of any kind, often one of some others.
func someToken(r *rand.Rand, others []string) string {
	if len(others) > 0 && r.IntN(2) == 0 {
		return pick(r, others...)
	}
	return like(r, pick(r, "(", ")", "a", "0", "#b1", `""`), others)
}

// like is a token of the kind of another one, often one of some others.
func like(r *rand.Rand, token string, others []string) string {
	kind := kindOf(token)
	for range 10 {
		if len(others) > 0 && r.IntN(3) == 0 {
			if x := pick(r, others...); kindOf(x) == kind {
				return x
			}
		}
	}
	switch kind {
	case '"':
		return pick(r, `""`, `"'a'"`, `"["`, `"`+strings.Repeat("a", 65)+`"`, `"`+strings.Repeat("all()", 40)+`"`, `"'a'`+strings.Repeat("|'a'", 64)+`"`)
	case '#':
		return pick(r, "#b1", "#xff", "#b0000", "#b"+strings.Repeat("01", 32))
	case '0':
		return pick(r, "0", "1", "8", "64", "65", "1099511627777")
	case 'a':
		return pick(r, pick(r, names...), "q", "not", "add", "ite", "in", "zero", "num", "extract", "byte", "bv", "str", "arr", "ars", "declare", "define", "assert", "check", "push")
	}
	return token
}

// kindOf is a byte for each kind of tokens.
func kindOf(token string) byte {
	switch c := token[0]; {
	case '0' <= c && c <= '9':
		return '0'
	case 'a' <= c && c <= 'z':
		return 'a'
	default:
		return c
	}
}
