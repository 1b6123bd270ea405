package parse

import (
	"strconv"

	"enthymeme/api"
	"enthymeme/lexer"
	"enthymeme/term"
	"enthymeme/value"
)

// reader reads the tokens of a text one after the other, and those of a body each time its macro is used.
type reader struct {
	tokens     []lexer.Token
	next       int // the index of the next token
	graph      term.Graph
	commands   []Command
	operations map[string]operation // by their words
	normals    map[string]string    // the texts of normal forms, by those of expressions
	variables  map[string]int       // the nodes of variables, by their names
	macros     map[string]macro     // by their names
	scope
	terms  int // how many terms began
	nested int // how many parentheses of terms are open
}

// scope is what is known only where the next term is read, within a body or outside of all.
type scope struct {
	parameters map[string]int // the nodes for which they stand, by their names
	known      int            // how many macros are known: the first ones
}

// newReader returns a reader of tokens that knows the variables of a graph.
func newReader(tokens []lexer.Token, g term.Graph) *reader {
	r := &reader{tokens: tokens, graph: g, operations: operations(), normals: map[string]string{}, variables: map[string]int{}, macros: map[string]macro{}}
	for _, v := range term.Vars(g) {
		r.variables[g.Nodes[v].Text] = v
	}
	return r
}

// take moves past the next token, which has to be of a kind, and returns it.
func (r *reader) take(kind int) lexer.Token {
	t := r.tokens[r.next]
	if t.Kind != kind {
		refuse(t)
	}
	r.next++
	return t
}

// each reads items that begin with a parenthesis, as many as there are, with a function that is called behind it.
func (r *reader) each(item func()) {
	for r.tokens[r.next].Kind == lexer.Open {
		r.next++
		item()
	}
}

// integer reads an Integer.
func (r *reader) integer() int {
	return number(r.take(lexer.Integer))
}

// number returns the number of an Integer. The lexer lets through so few digits that they are no error.
func number(t lexer.Token) int {
	n, _ := strconv.Atoi(t.Text)
	return n
}

// sort reads a sort.
func (r *reader) sort() api.Sort {
	first := r.take(lexer.Open)
	s := api.Sort{Kind: kindOf(r.take(lexer.Word))}
	if s.Kind == api.Arr || s.Kind == api.Ars {
		s.Index = r.integer()
	}
	s.N = r.integer()
	r.take(lexer.Close)
	if e := value.ValidSort(s); e != api.OK {
		fail(first, e)
	}
	return s
}

// kindOf returns the kind of sorts with a word.
func kindOf(word lexer.Token) int {
	switch word.Text {
	case "bv":
		return api.BV
	case "str":
		return api.Str
	case "arr":
		return api.Arr
	case "ars":
		return api.Ars
	}
	refuse(word)
	return 0
}

// add adds a node to the graph, and returns its number. An error is at the first token of what the node was read from.
func (r *reader) add(first lexer.Token, n api.Node) int {
	g, number, e := term.Add(r.graph, n)
	if e != api.OK {
		fail(first, e)
	}
	r.graph = g
	return number
}

// sortOf returns the sort of a node.
func (r *reader) sortOf(node int) api.Sort {
	return r.graph.Nodes[node].Sort
}
