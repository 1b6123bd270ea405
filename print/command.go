package print

import (
	"strconv"

	"enthymeme/api"
	"enthymeme/parse"
	"enthymeme/term"
)

// lineEnd is behind each command.
const lineEnd = "\n"

// commandWords are those of commands, by their kinds.
var commandWords = [...]string{
	parse.Declare: "declare", parse.Assert: "assert", parse.Edit: "edit", parse.Retract: "retract",
	parse.Push: "push", parse.Pop: "pop", parse.Check: "check",
}

// truth is the sort of what is asserted.
var truth = api.Sort{Kind: api.BV, N: 1}

// line returns the frame of the line of a proper command.
func line(c parse.Command) frame {
	f := command(c)
	f.parts[behind] += lineEnd
	return f
}

// command returns the frame of a proper command.
func command(c parse.Command) frame {
	word := commandWords[c.Kind]
	switch c.Kind {
	case parse.Declare:
		return enclosed(nil, word, c.Name, sortText(c.Sort))
	case parse.Assert, parse.Edit:
		return enclosed([]int{c.Node}, word, c.Name)
	case parse.Retract:
		return enclosed(nil, word, c.Name)
	case parse.Check:
		return enclosed(nil, word, strconv.Itoa(c.N))
	}
	return enclosed(nil, word)
}

// examiner examines the commands of a script one after the other.
type examiner struct {
	graph  term.Graph
	depths []int
	// known tells for which nodes it is known that all their variables were declared. A variable is its own.
	known []bool
}

// examine returns the first error of the commands of a script whose graph is valid, and whose nodes have depths.
func examine(s parse.Script, depths []int) api.Errno {
	x := examiner{s.Graph, depths, make([]bool, len(s.Graph.Nodes))}
	for _, c := range s.Commands {
		if e := x.next(c); e != api.OK {
			return e
		}
	}
	return api.OK
}

// next returns the error of the next command.
func (x examiner) next(c parse.Command) api.Errno {
	if c.Kind < 0 || c.Kind >= len(commandWords) || hasOthers(c) {
		return api.ErrArg
	}
	switch c.Kind {
	case parse.Declare:
		return x.declare(c)
	case parse.Assert, parse.Edit:
		return x.assertion(c)
	case parse.Retract:
		return examineName(c.Name)
	case parse.Check:
		return examineBudget(c.N)
	}
	return api.OK
}

// hasOthers reports whether a command has something in fields that its kind does not have.
func hasOthers(c parse.Command) bool {
	switch c.Kind {
	case parse.Declare:
		c.Name, c.Sort, c.Node = "", api.Sort{}, 0
	case parse.Assert, parse.Edit:
		c.Name, c.Node = "", 0
	case parse.Retract:
		c.Name = ""
	case parse.Check:
		c.N = 0
	}
	return c != parse.Command{Kind: c.Kind}
}

// declare returns the error of a declare, or notes what it declares.
func (x examiner) declare(c parse.Command) api.Errno {
	n, e := x.named(c)
	switch {
	case e != api.OK:
		return e
	case n.Op != api.Var || n.Text != c.Name || n.Sort != c.Sort:
		return api.ErrSort
	case x.known[c.Node]:
		// No other variable of the graph has the name.
		return api.ErrTwice
	}
	x.known[c.Node] = true
	return api.OK
}

// assertion returns the error of an assert or edit.
func (x examiner) assertion(c parse.Command) api.Errno {
	n, e := x.named(c)
	switch {
	case e != api.OK:
		return e
	case n.Sort != truth:
		return api.ErrSort
	case !x.areDeclared(c.Node):
		return api.ErrName
	case x.depths[c.Node] > api.MaxNesting:
		return api.ErrLimit
	}
	return api.OK
}

// named returns the node of a command with a name, or the error of both.
func (x examiner) named(c parse.Command) (api.Node, api.Errno) {
	if e := examineName(c.Name); e != api.OK {
		return api.Node{}, e
	}
	if c.Node < 0 || c.Node >= len(x.graph.Nodes) {
		return api.Node{}, api.ErrNone
	}
	return x.graph.Nodes[c.Node], api.OK
}

// areDeclared reports whether all variables of which a node consists were declared. Nodes for which this was found are noted: many commands can be about few nodes.
func (x examiner) areDeclared(node int) bool {
	if x.known[node] {
		return true
	}
	needs, _ := term.Needs(x.graph, []int{node})
	for _, i := range needs {
		if x.graph.Nodes[i].Op == api.Var && !x.known[i] {
			return false
		}
		// All that it consists of is before it.
		x.known[i] = true
	}
	return true
}

// examineName returns the error of a name: what is none is none of a variable of any sort.
func examineName(name string) api.Errno {
	_, e := term.SortOf(term.Graph{}, api.Node{Op: api.Var, Text: name, Sort: truth})
	return e
}

// examineBudget returns the error of the budget of a check.
func examineBudget(n int) api.Errno {
	if n < 0 || n > api.MaxBudget {
		return api.ErrRange
	}
	return api.OK
}
