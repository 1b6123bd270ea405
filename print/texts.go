package print

import (
	"enthymeme/api"
	"enthymeme/term"
)

const (
	space = " "
	// tooLong is the length of all texts that are longer than one may be.
	tooLong = api.MaxText + 1
)

// The parts of a frame.
const (
	before = iota
	behind
	partCount
)

// frame is what a text has before and behind those of its kids, each of which comes after a space.
type frame struct {
	parts [partCount]string
	kids  []int
}

// texts is what the texts of all nodes of a graph consist of, with their lengths and depths: so nothing is written that is too long.
type texts struct {
	frames  []frame
	lengths []int
	depths  []int
}

// newTexts returns the texts of a valid graph.
func newTexts(g term.Graph) texts {
	count := len(g.Nodes)
	t := texts{make([]frame, count), make([]int, count), make([]int, count)}
	words := operationWords()
	for i, n := range g.Nodes {
		t.frames[i] = frameOf(n, words[n.Op])
		t.lengths[i] = t.length(t.frames[i])
		t.depths[i] = t.depth(n)
	}
	return t
}

// length returns the length of a text whose kids have theirs.
func (t texts) length(f frame) int {
	add := adder()
	for _, part := range f.parts {
		add(len(part))
	}
	for _, k := range f.kids {
		add(len(space))
		add(t.lengths[k])
	}
	return add(0)
}

// adder returns a function that adds to a length, and returns it. As a kid can be that of many nodes, lengths double and triple from node to node; they are not added up beyond tooLong, since no int would hold them.
func adder() func(more int) int {
	length := 0
	return func(more int) int {
		length = min(length+more, tooLong)
		return length
	}
}

// depth returns the depth of a node whose kids have theirs.
func (t texts) depth(n api.Node) int {
	switch n.Op {
	case api.Var, api.Num, api.Text:
		return 0
	}
	inner := 0
	for _, k := range n.Kids {
		inner = max(inner, t.depths[k])
	}
	return inner + 1
}

// write appends a text.
func (t texts) write(text []byte, f frame) []byte {
	text = append(text, f.parts[before]...)
	for _, k := range f.kids {
		text = append(text, space...)
		text = t.write(text, t.frames[k])
	}
	return append(text, f.parts[behind]...)
}
