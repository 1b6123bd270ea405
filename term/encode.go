package term

import (
	"enthymeme/api"
	"enthymeme/hash"
	"enthymeme/wire"
)

// Encode returns the bytes of a graph.
func Encode(g Graph) ([]byte, api.Errno) {
	if e := Valid(g); e != api.OK {
		return nil, e
	}
	var w wire.Writer
	w.Int(len(g.Nodes))
	for _, n := range g.Nodes {
		write(&w, n)
	}
	return w.Done(), api.OK
}

// Decode returns the graph with these bytes.
func Decode(b []byte) (Graph, api.Errno) {
	r := wire.Read(b)
	count := r.Int()
	// More nodes than a graph can have are not read: the number may be forged.
	if count < 0 || count > api.MaxTerms {
		return Graph{}, api.ErrForm
	}
	var g Graph
	for range count {
		g.Nodes = append(g.Nodes, read(r))
	}
	if r.End() != api.OK || Valid(g) != api.OK {
		return Graph{}, api.ErrForm
	}
	return g, api.OK
}

// Hash returns the hash of a graph.
func Hash(g Graph) uint64 {
	b, e := Encode(g)
	if e != api.OK {
		return 0
	}
	return hash.Bytes("graph", b)
}

// encoding returns the bytes of a node, which are those of no other one.
func encoding(n api.Node) string {
	var w wire.Writer
	write(&w, n)
	return string(w.Done())
}

// write appends the bytes of a node.
func write(w *wire.Writer, n api.Node) {
	w.Int(n.Op)
	w.Ints(n.Kids)
	w.Int(n.N)
	w.Int(n.M)
	w.Uint(n.U)
	w.Raw([]byte(n.Text))
	w.Int(n.Sort.Kind)
	w.Int(n.Sort.N)
	w.Int(n.Sort.Index)
}

// read reads what write appends.
func read(r *wire.Reader) api.Node {
	var n api.Node
	n.Op = r.Int()
	// No kids are nil, as in all other graphs.
	if kids := r.Ints(); len(kids) > 0 {
		n.Kids = kids
	}
	n.N = r.Int()
	n.M = r.Int()
	n.U = r.Uint()
	n.Text = string(r.Raw())
	n.Sort.Kind = r.Int()
	n.Sort.N = r.Int()
	n.Sort.Index = r.Int()
	return n
}
