package parse

import (
	"enthymeme/api"
	"enthymeme/lexer"
)

// script reads all commands.
func (r *reader) script() Script {
	r.each(r.command)
	r.take(lexer.End)
	return Script{r.graph, r.commands}
}

// command reads a command behind its parenthesis.
func (r *reader) command() {
	switch word := r.take(lexer.Word); word.Text {
	case "declare":
		r.declare(word)
	case "define":
		r.define()
	case "assert":
		r.assertion(Assert)
	case "edit":
		r.assertion(Edit)
	case "retract":
		r.finish(Command{Kind: Retract, Name: r.take(lexer.Word).Text})
	case "push":
		r.finish(Command{Kind: Push})
	case "pop":
		r.finish(Command{Kind: Pop})
	case "check":
		r.finish(Command{Kind: Check, N: r.budget()})
	default:
		refuse(word)
	}
}

// finish reads the end of a command, and adds it to those of the script.
func (r *reader) finish(c Command) {
	r.take(lexer.Close)
	r.commands = append(r.commands, c)
}

// declare reads a declare behind this word.
func (r *reader) declare(word lexer.Token) {
	name := r.newName().Text
	s := r.sort()
	r.take(lexer.Close)
	node := r.add(word, api.Node{Op: api.Var, Text: name, Sort: s})
	r.variables[name] = node
	r.commands = append(r.commands, Command{Kind: Declare, Name: name, Sort: s, Node: node})
}

// assertion reads an assert or an edit behind this word.
func (r *reader) assertion(kind int) {
	name := r.take(lexer.Word).Text
	first := r.tokens[r.next]
	node := r.term()
	if r.sortOf(node) != (api.Sort{Kind: api.BV, N: 1}) {
		fail(first, api.ErrSort)
	}
	r.finish(Command{Kind: kind, Name: name, Node: node})
}

// budget reads the budget of a check.
func (r *reader) budget() int {
	t := r.take(lexer.Integer)
	n := number(t)
	if n > api.MaxBudget {
		fail(t, api.ErrRange)
	}
	return n
}

// newName reads a name that no variable and no macro has.
func (r *reader) newName() lexer.Token {
	name := r.take(lexer.Word)
	_, declared := r.variables[name.Text]
	_, defined := r.macros[name.Text]
	if declared || defined {
		fail(name, api.ErrTwice)
	}
	return name
}
