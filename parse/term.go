package parse

import (
	"strconv"
	"strings"

	"enthymeme/api"
	"enthymeme/lexer"
	"enthymeme/regex"
)

const (
	// binaryMark and hexMark begin Numbers.
	binaryMark = "#b"
	hexMark    = "#x"
)

// operation is what an operation word stands for.
type operation struct {
	op   int
	kids int
	// head reads what stands before the kids; it is nil if nothing does.
	head func(r *reader, n *api.Node)
}

// operations returns all operations by their words.
func operations() map[string]operation {
	return map[string]operation{
		"num":     {api.Num, 0, (*reader).size},
		"zero":    {api.Zero, 0, (*reader).ownSort},
		"not":     {api.Not, 1, nil},
		"neg":     {api.Neg, 1, nil},
		"and":     {api.And, 2, nil},
		"or":      {api.Or, 2, nil},
		"xor":     {api.Xor, 2, nil},
		"add":     {api.Add, 2, nil},
		"mul":     {api.Mul, 2, nil},
		"udiv":    {api.Udiv, 2, nil},
		"urem":    {api.Urem, 2, nil},
		"shl":     {api.Shl, 2, nil},
		"lshr":    {api.Lshr, 2, nil},
		"ashr":    {api.Ashr, 2, nil},
		"ult":     {api.Ult, 2, nil},
		"slt":     {api.Slt, 2, nil},
		"eq":      {api.Eq, 2, nil},
		"ite":     {api.Ite, 3, nil},
		"concat":  {api.Concat, 2, nil},
		"extract": {api.Extract, 1, (*reader).twoNumbers},
		"zext":    {api.Zext, 1, (*reader).oneNumber},
		"sext":    {api.Sext, 1, (*reader).oneNumber},
		"select":  {api.Select, 2, nil},
		"store":   {api.Store, 3, nil},
		"diff":    {api.Diff, 2, nil},
		"len":     {api.Len, 1, nil},
		"byte":    {api.Byte, 1, (*reader).oneNumber},
		"cat":     {api.Cat, 2, nil},
		"sub":     {api.Sub, 3, nil},
		"find":    {api.Find, 2, nil},
		"replace": {api.Replace, 3, nil},
		"in":      {api.In, 1, (*reader).expression},
		"char":    {api.Char, 1, nil},
	}
}

// term reads a term, and returns its node.
func (r *reader) term() int {
	first := r.tokens[r.next]
	switch first.Kind {
	case lexer.Close, lexer.Integer, lexer.End:
		refuse(first)
	}
	if r.terms == api.MaxText {
		fail(first, api.ErrLimit)
	}
	r.terms++
	r.next++
	switch first.Kind {
	case lexer.Word:
		return r.alone(first)
	case lexer.Number:
		return r.add(first, bitVector(first.Text))
	case lexer.Quoted:
		return r.add(first, api.Node{Op: api.Text, Text: first.Text})
	}
	return r.parenthesized(first)
}

// alone returns the node of a name alone. If it is that of a macro, its body is read.
func (r *reader) alone(name lexer.Token) int {
	if node, ok := r.parameters[name.Text]; ok {
		return node
	}
	if node, ok := r.variables[name.Text]; ok {
		return node
	}
	m := r.macroOf(name)
	if len(m.parameters) > 0 {
		fail(name, api.ErrName)
	}
	return r.expand(m, nil)
}

// parenthesized reads a term behind its first token, a parenthesis.
func (r *reader) parenthesized(first lexer.Token) int {
	if r.nested == api.MaxNesting {
		fail(first, api.ErrLimit)
	}
	// What is read until the term ends, the body of its macro included, is within it.
	r.nested++
	node := r.applied(first, r.take(lexer.Word))
	r.nested--
	return node
}

// applied reads a term behind its word, which is one of an operation or the name of a macro.
func (r *reader) applied(first, word lexer.Token) int {
	o, ok := r.operations[word.Text]
	if !ok {
		return r.call(first, word)
	}
	n := api.Node{Op: o.op}
	if o.head != nil {
		o.head(r, &n)
	}
	n.Kids = r.kids(o.kids)
	r.take(lexer.Close)
	return r.add(first, n)
}

// kids reads a number of terms, and returns their nodes.
func (r *reader) kids(count int) []int {
	var nodes []int
	for range count {
		nodes = append(nodes, r.term())
	}
	return nodes
}

// size reads the number and the width of a num.
func (r *reader) size(n *api.Node) {
	n.U = uint64(r.integer())
	n.Sort = api.Sort{Kind: api.BV, N: r.integer()}
}

// ownSort reads the sort of a zero.
func (r *reader) ownSort(n *api.Node) {
	n.Sort = r.sort()
}

// oneNumber reads N.
func (r *reader) oneNumber(n *api.Node) {
	n.N = r.integer()
}

// twoNumbers reads N and M.
func (r *reader) twoNumbers(n *api.Node) {
	n.N = r.integer()
	n.M = r.integer()
}

// expression reads the regular expression of an in. Within a body this can be thousands of times, so normal forms are kept.
func (r *reader) expression(n *api.Node) {
	t := r.take(lexer.Quoted)
	text, ok := r.normals[t.Text]
	if !ok {
		var e api.Errno
		if text, e = normal(t.Text); e != api.OK {
			fail(t, e)
		}
		r.normals[t.Text] = text
	}
	n.Text = text
}

// normal returns the text of the normal form of a regular expression.
func normal(text string) (string, api.Errno) {
	x, _, e := regex.Parse(text)
	if e != api.OK {
		return "", e
	}
	if x, e = regex.Normal(x); e != api.OK {
		return "", e
	}
	return regex.Print(x)
}

// bitVector returns the node of a Number. The lexer lets through no more digits than have room, so they are no error.
func bitVector(text string) api.Node {
	digits, base, size := strings.TrimPrefix(text, binaryMark), 2, 1
	if strings.HasPrefix(text, hexMark) {
		digits, base, size = strings.TrimPrefix(text, hexMark), 16, 4
	}
	u, _ := strconv.ParseUint(digits, base, api.MaxWidth)
	return api.Node{Op: api.Num, U: u, Sort: api.Sort{Kind: api.BV, N: size * len(digits)}}
}
