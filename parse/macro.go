package parse

import (
	"enthymeme/api"
	"enthymeme/lexer"
)

// macro is what a define defines.
type macro struct {
	order      int // how many macros were defined before it
	parameters []parameter
	body       int // the index of the first token
}

// parameter is one of a macro.
type parameter struct {
	name string
	sort api.Sort
}

// define reads a define behind this word.
func (r *reader) define() {
	r.take(lexer.Open)
	name := r.newName()
	if _, ok := r.operations[name.Text]; ok {
		fail(name, api.ErrName)
	}
	m := macro{order: r.known, parameters: r.parameterList()}
	r.take(lexer.Close)
	m.body = r.next
	r.skipBody()
	r.take(lexer.Close)
	r.macros[name.Text] = m
	r.known++
}

// parameterList reads the parameters of a macro.
func (r *reader) parameterList() []parameter {
	var list []parameter
	taken := map[string]bool{}
	r.each(func() {
		name := r.take(lexer.Word)
		if taken[name.Text] {
			fail(name, api.ErrTwice)
		}
		taken[name.Text] = true
		list = append(list, parameter{name.Text, r.sort()})
		r.take(lexer.Close)
	})
	return list
}

// skipBody moves past a body. It is not examined before the macro is used.
func (r *reader) skipBody() {
	for open := 0; ; {
		t := r.tokens[r.next]
		switch {
		case t.Kind == lexer.Open:
			open++
		case t.Kind == lexer.Close && open > 0:
			open--
		case t.Kind == lexer.Close || t.Kind == lexer.End:
			refuse(t)
		}
		r.next++
		if open == 0 {
			return
		}
	}
}

// macroOf returns the macro that a word names where it is read.
func (r *reader) macroOf(word lexer.Token) macro {
	m, ok := r.macros[word.Text]
	if !ok || m.order >= r.known {
		fail(word, api.ErrName)
	}
	return m
}

// call reads the terms of a macro that a word names, and then its body.
func (r *reader) call(first, word lexer.Token) int {
	m := r.macroOf(word)
	nodes := r.kids(len(m.parameters))
	r.take(lexer.Close)
	for i, p := range m.parameters {
		if r.sortOf(nodes[i]) != p.sort {
			fail(first, api.ErrSort)
		}
	}
	return r.expand(m, nodes)
}

// expand reads the body of a macro, whose parameters stand for nodes. All parentheses of a body are closed within it, so what is read as a term does not go beyond it.
func (r *reader) expand(m macro, nodes []int) int {
	next, outside := r.next, r.scope
	r.next, r.scope = m.body, scope{map[string]int{}, m.order}
	for i, p := range m.parameters {
		r.parameters[p.name] = nodes[i]
	}
	node := r.term()
	r.next, r.scope = next, outside
	return node
}
