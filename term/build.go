package term

import (
	"slices"

	"enthymeme/api"
)

// builder adds many nodes to a graph.
type builder struct {
	graph   Graph
	numbers map[string]int // of all nodes of the graph, by their encodings
}

// newBuilder returns a builder that begins with the nodes of a graph.
func newBuilder(g Graph) *builder {
	// Without room behind them, the first node that is added moves the nodes to memory of the builder's own.
	b := &builder{Graph{slices.Clip(g.Nodes)}, map[string]int{}}
	for i, n := range g.Nodes {
		b.numbers[encoding(n)] = i
	}
	return b
}

// add does what Add does, with the graph of the builder, but keeps the Kids of the node.
func (b *builder) add(n api.Node) (int, api.Errno) {
	n, e := withSort(b.graph, n)
	if e != api.OK {
		return 0, e
	}
	key := encoding(n)
	if number, found := b.numbers[key]; found {
		return number, api.OK
	}
	number := len(b.graph.Nodes)
	if number >= api.MaxTerms {
		return 0, api.ErrLimit
	}
	b.graph.Nodes = append(b.graph.Nodes, n)
	b.numbers[key] = number
	return number, api.OK
}

// Join adds all nodes of another graph, and returns their new numbers.
func Join(g, h Graph) (Graph, []int, api.Errno) {
	b := newBuilder(g)
	becomes := make([]int, len(h.Nodes))
	for i, n := range h.Nodes {
		number, e := b.add(moved(n, becomes))
		if e != api.OK {
			return Graph{}, nil, e
		}
		becomes[i] = number
	}
	return b.graph, becomes, api.OK
}

// Replace returns the graph in which nodes are built anew with other nodes instead of some variables: the new numbers of all old nodes.
func Replace(g Graph, vars [][2]int) (Graph, []int, api.Errno) {
	if e := examinePairs(g, vars); e != api.OK {
		return Graph{}, nil, e
	}
	becomes := make([]int, len(g.Nodes))
	for i := range becomes {
		becomes[i] = i
	}
	for _, p := range vars {
		becomes[p[0]] = p[1]
	}
	b := newBuilder(g)
	for i, n := range g.Nodes {
		m := moved(n, becomes)
		if slices.Equal(m.Kids, n.Kids) {
			continue
		}
		number, e := b.add(m)
		if e != api.OK {
			return Graph{}, nil, e
		}
		becomes[i] = number
	}
	return b.graph, becomes, api.OK
}

// examinePairs returns the error of pairs of variables and nodes instead of them.
func examinePairs(g Graph, vars [][2]int) api.Errno {
	for _, p := range vars {
		if !g.has(p[0]) || !g.has(p[1]) {
			return api.ErrNone
		}
	}
	replaced := map[int]bool{}
	for _, p := range vars {
		if !g.isVar(p[0]) || replaced[p[0]] {
			return api.ErrArg
		}
		replaced[p[0]] = true
	}
	for _, p := range vars {
		if g.Nodes[p[0]].Sort != g.Nodes[p[1]].Sort {
			return api.ErrSort
		}
	}
	return api.OK
}

// moved returns a node with what its kids become instead of them.
func moved(n api.Node, becomes []int) api.Node {
	n = owned(n)
	for i := range len(n.Kids) {
		n.Kids[i] = becomes[n.Kids[i]]
	}
	return n
}
