package term_test

import (
	"bytes"
	"math"
	"reflect"
	"slices"
	"testing"

	"enthymeme/api"
	"enthymeme/hash"
	"enthymeme/term"
	"enthymeme/wire"
)

// written is what the chapter says of the bytes of a graph, word by word; also of such graphs as are not valid.
func written(g G, count int) []byte {
	var w wire.Writer
	w.Int(count)
	for _, n := range g.Nodes {
		w.Int(n.Op)
		w.Ints(n.Kids)
		w.Int(n.N)
		w.Int(n.M)
		w.Uint(n.U)
		w.Raw([]byte(n.Text))
		w.Int(n.Sort.Kind)
		w.Int(n.Sort.N)
		w.Int(n.Sort.Index)
	}
	return w.Done()
}

// P7.7: bytes that are written out.
func TestEncode(t *testing.T) {
	for i, x := range []struct {
		g    G
		want []byte
	}{
		{G{}, []byte{0}},
		{graph(t, variable("x", bv(8))), []byte{2, 0, 0, 0, 0, 0, 1, 'x', 0, 16, 0}},
		{graph(t, num(300, 64)), []byte{2, 2, 0, 0, 0, 172, 2, 0, 0, 128, 1, 0}},
		{graph(t, num(math.MaxUint64, 64)), []byte{2, 2, 0, 0, 0, 255, 255, 255, 255, 255, 255, 255, 255, 255, 1, 0, 0, 128, 1, 0}},
		{graph(t, N{Op: api.Text, Text: "\x00\xff"}), []byte{2, 4, 0, 0, 0, 0, 2, 0, 255, 2, 4, 0}},
		{graph(t, N{Op: api.Zero, Sort: ars(0, 16)}), []byte{2, 6, 0, 0, 0, 0, 0, 6, 0, 32}},
		{graph(t, variable("x", bv(8)), op(api.And, 0, 0), sized(api.Extract, 3, 1, 1)), []byte{6, 0, 0, 0, 0, 0, 1, 'x', 0, 16, 0, 12, 2, 0, 0, 0, 0, 0, 0, 0, 16, 0, 42, 1, 2, 6, 2, 0, 0, 0, 6, 0}},
		{graph(t, variable("s", str(3)), N{Op: api.In, Text: "'a'", Kids: []int{0}}), []byte{4, 0, 0, 0, 0, 0, 1, 's', 2, 6, 0, 66, 1, 0, 0, 0, 0, 3, '\'', 'a', '\'', 0, 2, 0}},
	} {
		from, changed := roomy(x.g)
		b, e := term.Encode(from)
		if !bytes.Equal(b, x.want) || e != api.OK {
			t.Errorf("%d: %v, %d, not %v", i, b, e, x.want)
		}
		if g, e := term.Decode(x.want); e != api.OK || !alike(g, x.g) {
			t.Errorf("%d: back to %v, %d", i, g, e)
		}
		if h := term.Hash(from); h != hash.Bytes("graph", x.want) {
			t.Errorf("%d: the hash %x", i, h)
		}
		if changed() {
			t.Errorf("%d: the graph has become %v", i, from)
		}
	}
}

// P7.7: graphs that are not valid.
func TestEncodeErrors(t *testing.T) {
	x := variable("x", bv(8))
	for i, c := range []struct {
		g G
		e api.Errno
	}{
		{G{make([]N, 4097)}, api.ErrLimit}, {G{[]N{x, {Op: 35}}}, api.ErrArg}, {G{[]N{variable("", bv(8))}}, api.ErrName}, {G{[]N{x, sorted(op(api.Not, 0), bv(7))}}, api.ErrSort}, {G{[]N{num(2, 1)}}, api.ErrRange}, {G{[]N{variable("s", str(1)), sorted(N{Op: api.In, Text: "?", Kids: []int{0}}, bv(1))}}, api.ErrForm}, {G{[]N{x, x}}, api.ErrTwice},
	} {
		if b, e := term.Encode(c.g); len(b) != 0 || e != c.e {
			t.Errorf("%d: %v, %d, not %d", i, b, e, c.e)
		}
		if h := term.Hash(c.g); h != 0 {
			t.Errorf("%d: the hash %x", i, h)
		}
		if g, e := term.Decode(written(c.g, len(c.g.Nodes))); len(g.Nodes) != 0 || e != api.ErrForm {
			t.Errorf("%d: decoded as %v, %d", i, g, e)
		}
	}
}

// P7.7: bytes that encode no valid graph.
func TestDecodeErrors(t *testing.T) {
	x := []byte{0, 0, 0, 0, 0, 1, 'x', 0, 16, 0}
	with := func(count byte, rest ...[]byte) []byte { return append([]byte{count}, bytes.Join(rest, nil)...) }
	if g, e := term.Decode(with(2, x)); e != api.OK || !alike(g, graph(t, variable("x", bv(8)))) {
		t.Fatalf("%v, %d", g, e)
	}
	greatest := []byte{254, 255, 255, 255, 255, 255, 255, 255, 255, 1}
	least := []byte{255, 255, 255, 255, 255, 255, 255, 255, 255, 1}
	for what, b := range map[string][]byte{
		"nil": nil, "no bytes": {}, "-1 nodes": {1}, "-1 nodes, but one": with(1, x), "1 node, but none": {2}, "2 nodes, but one": with(4, x), "no nodes, but one": with(0, x), "1 node, but two": with(2, x, []byte{0, 0, 0, 0, 0, 1, 'y', 0, 16, 0}),
		"a byte more": with(2, x, []byte{0}), "a node twice": with(4, x, x), "a longer form of the number": append([]byte{130, 0}, x...), "a longer form of Op": with(2, []byte{128, 0}, x[1:]), "a longer form of the kids": with(2, []byte{0, 128, 0}, x[2:]), "a longer form of the text": with(2, x[:5], []byte{129, 0}, x[6:]),
		"the greatest number": greatest, "the least number": least, "the greatest number, and one node": append(greatest, x...), "more than a number": {255, 255, 255, 255, 255, 255, 255, 255, 255, 2},
		"4097 nodes": written(G{append(fullGraph().Nodes, num(4095, 12))}, 4097), "4097 nodes, but none": written(G{}, 4097), "4096 nodes, but none": written(G{}, 4096), "4096 nodes, but 4095": written(part(fullGraph(), 4095), 4096), "4095 nodes, but 4096": written(fullGraph(), 4095),
		"a text without an end": with(2, x[:5], []byte{255, 255, 255, 255, 15, 'x'}), "kids without an end": with(2, []byte{0, 255, 255, 3}), "a capital letter": with(2, x[:6], []byte{'X'}, x[7:]), "no width": with(2, x[:8], []byte{0, 0}), "a kid behind": with(2, []byte{8, 1, 0, 0, 0, 0, 0, 0, 16, 0}), "another sort": with(4, x, []byte{8, 1, 0, 0, 0, 0, 0, 0, 14, 0}),
	} {
		if g, e := term.Decode(b); len(g.Nodes) != 0 || e != api.ErrForm {
			t.Errorf("%s: %v, %d", what, g, e)
		}
	}
}

// P7.7: what is encoded is decoded; neither keeps or shares memory.
func TestRoundTrip(t *testing.T) {
	r := random(9)
	hashes := map[uint64]string{}
	for range 500 {
		g := randomGraph(r, r.IntN(40))
		b, e := term.Encode(g)
		if e != api.OK || !bytes.Equal(b, written(g, len(g.Nodes))) {
			t.Fatalf("%v is encoded as %v, %d", g, b, e)
		}
		kept := slices.Clone(b)
		got, e := term.Decode(b)
		if e != api.OK || !bytes.Equal(b, kept) {
			t.Fatalf("%v comes back with the error %d", g, e)
		}
		for i := range b {
			b[i] ^= 0xff
		}
		if !alike(got, g) {
			t.Fatalf("%v comes back as %v", g, got)
		}
		// Nodes without kids have nil, whichever way they came.
		if added, _, e := term.Join(G{}, g); e != api.OK || !reflect.DeepEqual(added, got) {
			t.Fatalf("%#v comes back as %#v", added, got)
		}
		h := term.Hash(g)
		if other, found := hashes[h]; h != hash.Bytes("graph", kept) || found && other != string(kept) {
			t.Fatalf("%v has the hash %x", g, h)
		}
		hashes[h] = string(kept)
		for size := range kept {
			if h, e := term.Decode(kept[:size]); len(h.Nodes) != 0 || e != api.ErrForm {
				t.Fatalf("%d bytes of %v: %v, %d", size, kept, h, e)
			}
		}
	}
	full := fullGraph()
	b, e := term.Encode(full)
	if e != api.OK || !bytes.Equal(b, written(full, 4096)) {
		t.Fatalf("4096 nodes: %d", e)
	}
	if g, e := term.Decode(b); e != api.OK || !alike(g, full) {
		t.Errorf("4096 nodes come back with the error %d", e)
	}
}

// P7.7: bytes with faults are those of no graph, or of the one that is decoded.
func TestDecodeFaults(t *testing.T) {
	r := random(10)
	decoded := 0
	for range 20000 {
		g := randomGraph(r, 1+r.IntN(8))
		b := written(g, len(g.Nodes))
		for range 1 + r.IntN(2) {
			i := r.IntN(len(b))
			switch r.IntN(4) {
			case 0:
				b[i] = byte(r.Uint32())
			case 1:
				b[i] ^= 1 << r.IntN(8)
			case 2:
				b = slices.Delete(b, i, i+1)
			case 3:
				b = slices.Insert(b, i, byte(r.Uint32N(4)))
			}
			if len(b) == 0 {
				break
			}
		}
		h, e := term.Decode(b)
		switch {
		case e == api.OK:
			decoded++
			if back, e := term.Encode(h); e != api.OK || !bytes.Equal(back, b) || term.Valid(h) != api.OK {
				t.Fatalf("%v is decoded as %v, which is encoded as %v, %d", b, h, back, e)
			}
		case e != api.ErrForm || len(h.Nodes) != 0:
			t.Fatalf("%v: %v, %d", b, h, e)
		}
	}
	if decoded < 100 {
		t.Errorf("only %d were decoded", decoded)
	}
}
