package term_test

import (
	"math"
	"slices"
	"testing"

	"enthymeme/api"
	"enthymeme/term"
)

// P7.5: nodes that are there, nodes that are new, and their kids.
func TestJoin(t *testing.T) {
	x, y, c := variable("x", bv(8)), variable("y", bv(8)), variable("c", bv(1))
	g := graph(t, x, y, op(api.Add, 0, 1))
	for i, k := range []struct {
		h    G
		want []N
		to   []int
	}{
		{G{}, nil, nil},
		{graph(t, y, x), nil, []int{1, 0}},
		{graph(t, y, x, op(api.Add, 1, 0)), nil, []int{1, 0, 2}},
		{graph(t, y, x, op(api.Add, 0, 1)), []N{sorted(op(api.Add, 1, 0), bv(8))}, []int{1, 0, 3}},
		{graph(t, c, y, op(api.Not, 1), op(api.Ite, 0, 2, 1)), []N{c, sorted(op(api.Not, 1), bv(8)), sorted(op(api.Ite, 3, 4, 1), bv(8))}, []int{3, 1, 4, 5}},
		{graph(t, num(1, 8), num(2, 8)), []N{num(1, 8), num(2, 8)}, []int{3, 4}},
	} {
		from, changed := roomy(g)
		other, otherChanged := roomy(k.h)
		h, to, e := term.Join(from, other)
		if e != api.OK || !alike(h, G{slices.Concat(g.Nodes, k.want)}) || !slices.Equal(to, k.to) {
			t.Errorf("%d: %v, %v, %d", i, h, to, e)
		}
		if changed() || otherChanged() {
			t.Errorf("%d: the graphs have become %v and %v", i, from, other)
		}
		if joined, to, e := term.Join(G{}, k.h); e != api.OK || !alike(joined, k.h) || !slices.Equal(to, numbers(len(k.h.Nodes))) {
			t.Errorf("%d: joined with nothing: %v, %v, %d", i, joined, to, e)
		}
	}
}

// P7.5: errors.
func TestJoinErrors(t *testing.T) {
	x := variable("x", bv(8))
	g := graph(t, x, num(1, 8))
	fails := func(g, h G, want api.Errno) {
		t.Helper()
		if joined, to, e := term.Join(g, h); len(joined.Nodes) != 0 || len(to) != 0 || e != want {
			t.Errorf("%d nodes, %v, %d, not %d", len(joined.Nodes), to, e, want)
		}
	}
	fails(g, graph(t, variable("x", bv(7))), api.ErrTwice)
	fails(g, graph(t, variable("y", bv(7)), variable("x", str(8))), api.ErrTwice)
	full := fullGraph()
	fails(full, graph(t, variable("y", bv(7))), api.ErrLimit)
	fails(full, graph(t, num(0, 12), num(4095, 12)), api.ErrLimit)
	fails(graph(t, num(4095, 12)), full, api.ErrLimit)
	// The first error of a node counts.
	fails(full, graph(t, variable("y", bv(7)), variable("x", bv(7))), api.ErrLimit)
	fails(full, graph(t, variable("x", bv(7)), variable("y", bv(7))), api.ErrTwice)
	if h, to, e := term.Join(part(full, 4095), graph(t, num(4094, 12))); e != api.OK || !alike(h, full) || !slices.Equal(to, []int{4095}) {
		t.Errorf("up to 4096 nodes: %v, %d", to, e)
	}
	if h, to, e := term.Join(full, full); e != api.OK || !alike(h, full) || !slices.Equal(to, numbers(4096)) {
		t.Errorf("a full graph with itself: %v, %d", to, e)
	}
}

// P7.5: node by node by Add; P7.8; P7.9: the graph that is joined is found in the result.
func TestJoined(t *testing.T) {
	r := random(6)
	for range 400 {
		g, changed := roomy(randomGraph(r, r.IntN(30)))
		h, otherChanged := roomy(randomGraph(r, r.IntN(30)))
		want, to := g, []int{}
		for _, n := range h.Nodes {
			kids := []int{}
			for _, k := range n.Kids {
				kids = append(kids, to[k])
			}
			n.Kids = kids
			var i int
			var e api.Errno
			if want, i, e = term.Add(want, n); e != api.OK {
				t.Fatal(e)
			}
			to = append(to, i)
		}
		got, becomes, e := term.Join(g, h)
		if e != api.OK || !alike(got, want) || !slices.Equal(becomes, to) {
			t.Fatalf("%v and %v: %v, %v, %d, not %v, %v", g, h, got, becomes, e, want, to)
		}
		if !begins(got, g) || term.Valid(got) != api.OK {
			t.Fatalf("%v joined with %v is %v", g, h, got)
		}
		in, of := terms(got, nil), terms(h, nil)
		for i, k := range becomes {
			if in[k] != of[i] || got.Nodes[k].Sort != h.Nodes[i].Sort {
				t.Fatalf("node %d of %v has become %d of %v", i, h, k, got)
			}
		}
		before := copied(got)
		for _, n := range h.Nodes {
			for k := range n.Kids {
				n.Kids[k] = -5
			}
		}
		if !alike(got, before) || changed() || !otherChanged() && slices.ContainsFunc(h.Nodes, func(n N) bool { return len(n.Kids) > 0 }) {
			t.Fatal("graphs share what they may not share")
		}
	}
}

// P7.9: joining a graph with itself, or a part of it.
func TestJoinItself(t *testing.T) {
	r := random(7)
	for range 300 {
		g := randomGraph(r, 1+r.IntN(40))
		if h, to, e := term.Join(g, g); e != api.OK || !alike(h, g) || !slices.Equal(to, numbers(len(g.Nodes))) {
			t.Fatalf("%v with itself: %v, %v, %d", g, h, to, e)
		}
		size := r.IntN(len(g.Nodes) + 1)
		if h, to, e := term.Join(g, part(g, size)); e != api.OK || !alike(h, g) || !slices.Equal(to, numbers(size)) {
			t.Fatalf("%v with its first %d nodes: %v, %v, %d", g, size, h, to, e)
		}
		// What one node needs, in numbers of its own, is a part as well.
		needs, e := term.Needs(g, []int{r.IntN(len(g.Nodes))})
		if e != api.OK {
			t.Fatal(e)
		}
		own := map[int]int{}
		var p G
		for i, k := range needs {
			own[k] = i
			n := g.Nodes[k]
			n.Kids = nil
			for _, kid := range g.Nodes[k].Kids {
				n.Kids = append(n.Kids, own[kid])
			}
			p.Nodes = append(p.Nodes, n)
		}
		if h, to, e := term.Join(g, p); e != api.OK || !alike(h, g) || !slices.Equal(to, needs) {
			t.Fatalf("%v with %v: %v, %v, %d, not %v", g, p, h, to, e, needs)
		}
		// The rest is added behind the part.
		if h, to, e := term.Join(p, g); e != api.OK || !begins(h, p) || len(h.Nodes) != len(g.Nodes) || len(to) != len(g.Nodes) {
			t.Fatalf("%v with %v: %v, %v, %d", p, g, h, to, e)
		}
	}
}

// P7.6: what nodes become.
func TestReplace(t *testing.T) {
	x, y, z, c := variable("x", bv(8)), variable("y", bv(8)), variable("z", bv(8)), variable("c", bv(1))
	// 0 x, 1 y, 2 x + y, 3 Not of 2, 4 c, 5 Ite of c, 3 and y
	g := graph(t, x, y, op(api.Add, 0, 1), op(api.Not, 2), c, op(api.Ite, 4, 3, 1))
	// 0 x, 1 Not x, 2 Not Not x, 3 y, 4 Not y
	chain := graph(t, x, op(api.Not, 0), op(api.Not, 1), y, op(api.Not, 3))
	eight := func(n N) N { return sorted(n, bv(8)) }
	for i, k := range []struct {
		g    G
		vars [][2]int
		want []N
		to   []int
	}{
		{G{}, nil, nil, nil}, {g, nil, nil, numbers(6)}, {g, [][2]int{}, nil, numbers(6)}, {g, [][2]int{{0, 0}}, nil, numbers(6)}, {g, [][2]int{{4, 4}, {1, 1}, {0, 0}}, nil, numbers(6)},
		{g, [][2]int{{0, 1}}, []N{eight(op(api.Add, 1, 1)), eight(op(api.Not, 6)), eight(op(api.Ite, 4, 7, 1))}, []int{1, 1, 6, 7, 4, 8}},
		// All at once: what a variable becomes is a node as it was.
		{g, [][2]int{{0, 1}, {1, 0}}, []N{eight(op(api.Add, 1, 0)), eight(op(api.Not, 6)), eight(op(api.Ite, 4, 7, 0))}, []int{1, 0, 6, 7, 4, 8}},
		{g, [][2]int{{1, 0}, {0, 3}}, []N{eight(op(api.Add, 3, 0)), eight(op(api.Not, 6)), eight(op(api.Ite, 4, 7, 0))}, []int{3, 0, 6, 7, 4, 8}},
		// A node behind those that have the variable.
		{g, [][2]int{{1, 5}}, []N{eight(op(api.Add, 0, 5)), eight(op(api.Not, 6)), eight(op(api.Ite, 4, 7, 5))}, []int{0, 5, 6, 7, 4, 8}},
		// Nodes that are there already are not added.
		{chain, [][2]int{{0, 1}}, []N{eight(op(api.Not, 2))}, []int{1, 2, 5, 3, 4}},
		{chain, [][2]int{{3, 0}}, nil, []int{0, 1, 2, 0, 1}}, {chain, [][2]int{{3, 1}}, nil, []int{0, 1, 2, 1, 2}},
		{chain, [][2]int{{3, 2}}, []N{eight(op(api.Not, 2))}, []int{0, 1, 2, 2, 5}},
		{chain, [][2]int{{0, 3}, {3, 0}}, []N{eight(op(api.Not, 4))}, []int{3, 4, 5, 0, 1}},
		// A variable of which nothing consists.
		{graph(t, x, z, op(api.Not, 0)), [][2]int{{1, 2}}, nil, []int{0, 2, 2}},
	} {
		from, changed := roomy(k.g)
		vars := slices.Clone(k.vars)
		h, to, e := term.Replace(from, vars)
		if e != api.OK || !alike(h, G{slices.Concat(k.g.Nodes, k.want)}) || !slices.Equal(to, k.to) {
			t.Errorf("%d: %v, %v, %d", i, h, to, e)
		}
		if changed() || !slices.Equal(vars, k.vars) {
			t.Errorf("%d: the arguments have become %v, %v", i, from, vars)
		}
	}
}

// P7.6: errors, each of which is looked for in all pairs before the next one.
func TestReplaceErrors(t *testing.T) {
	// 0 x, 1 y of 7 bits, 2 Not x, 3 s, 4 "abc", 5 s2
	g := graph(t, variable("x", bv(8)), variable("y", bv(7)), op(api.Not, 0), variable("s", str(5)), N{Op: api.Text, Text: "abc"}, variable("s2", str(5)))
	for i, k := range []struct {
		vars [][2]int
		e    api.Errno
	}{
		{[][2]int{{-1, 0}}, api.ErrNone}, {[][2]int{{6, 0}}, api.ErrNone}, {[][2]int{{0, -1}}, api.ErrNone}, {[][2]int{{0, 6}}, api.ErrNone}, {[][2]int{{0, 2}, {1, 6}}, api.ErrNone}, {[][2]int{{math.MinInt, math.MaxInt}}, api.ErrNone},
		{[][2]int{{2, 0}}, api.ErrArg}, {[][2]int{{4, 3}}, api.ErrArg}, {[][2]int{{2, 2}}, api.ErrArg}, {[][2]int{{0, 2}, {0, 2}}, api.ErrArg}, {[][2]int{{0, 0}, {0, 2}}, api.ErrArg}, {[][2]int{{0, 2}, {3, 5}, {0, 0}}, api.ErrArg},
		{[][2]int{{0, 1}}, api.ErrSort}, {[][2]int{{1, 2}}, api.ErrSort}, {[][2]int{{0, 3}}, api.ErrSort}, {[][2]int{{3, 4}}, api.ErrSort}, {[][2]int{{3, 5}, {0, 1}}, api.ErrSort},
		{[][2]int{{0, 1}, {2, 0}}, api.ErrArg}, {[][2]int{{0, 1}, {0, 2}}, api.ErrArg}, {[][2]int{{2, 1}, {0, 6}}, api.ErrNone}, {[][2]int{{0, 1}, {2, 0}, {-1, 0}}, api.ErrNone},
	} {
		if h, to, e := term.Replace(g, k.vars); len(h.Nodes) != 0 || len(to) != 0 || e != k.e {
			t.Errorf("%d: %v, %v, %d, not %d", i, h, to, e, k.e)
		}
	}
	if h, to, e := term.Replace(g, [][2]int{{3, 5}, {5, 3}, {0, 2}}); e != api.OK || len(h.Nodes) != 7 || !slices.Equal(to, []int{2, 1, 6, 5, 4, 3}) {
		t.Errorf("%v, %v, %d", h, to, e)
	}
	if h, to, e := term.Replace(G{}, [][2]int{{0, 0}}); len(h.Nodes) != 0 || len(to) != 0 || e != api.ErrNone {
		t.Errorf("without nodes: %v, %v, %d", h, to, e)
	}
}

// P7.6: the limit.
func TestReplaceLimit(t *testing.T) {
	g := fullGraph()
	g.Nodes[4095] = sorted(op(api.Not, 0), bv(12))
	if h, to, e := term.Replace(g, [][2]int{{0, 1}}); len(h.Nodes) != 0 || len(to) != 0 || e != api.ErrLimit {
		t.Errorf("with 4096 nodes: %d nodes, %v, %d", len(h.Nodes), to, e)
	}
	if h, to, e := term.Replace(g, [][2]int{{0, 0}}); e != api.OK || !alike(h, g) || !slices.Equal(to, numbers(4096)) {
		t.Errorf("without a change: %d", e)
	}
	// 4095 nodes: there is room for Not of a number, but not for another one.
	g.Nodes = append(g.Nodes[:4094:4094], g.Nodes[4095])
	h, to, e := term.Replace(g, [][2]int{{0, 1}})
	if e != api.OK || len(h.Nodes) != 4096 || to[4094] != 4095 || !same(h.Nodes[4095], sorted(op(api.Not, 1), bv(12))) {
		t.Errorf("with 4095 nodes: %d nodes, %d", len(h.Nodes), e)
	}
	g.Nodes[4093] = sorted(op(api.Neg, 0), bv(12))
	if h, to, e := term.Replace(g, [][2]int{{0, 1}}); len(h.Nodes) != 0 || len(to) != 0 || e != api.ErrLimit {
		t.Errorf("with 4095 nodes, two of them new: %d nodes, %v, %d", len(h.Nodes), to, e)
	}
}

// P7.6: the term of each node is that of the old one with other terms instead of variables; P7.8, P7.10.
func TestReplaced(t *testing.T) {
	r := random(8)
	for range 500 {
		g, changed := roomy(randomGraph(r, 1+r.IntN(30)))
		instead := map[int]int{}
		var vars [][2]int
		for _, v := range term.Vars(g) {
			i := r.IntN(len(g.Nodes))
			if g.Nodes[i].Sort == g.Nodes[v].Sort {
				instead[v] = i
				vars = append(vars, [2]int{v, i})
			}
		}
		r.Shuffle(len(vars), func(i, j int) { vars[i], vars[j] = vars[j], vars[i] })
		h, to, e := term.Replace(g, vars)
		if e != api.OK || len(to) != len(g.Nodes) || !begins(h, g) || term.Valid(h) != api.OK || changed() {
			t.Fatalf("%v, %v: %v, %v, %d", g, vars, h, to, e)
		}
		want, got := terms(g, instead), terms(h, nil)
		affected := map[int]bool{}
		for i, n := range g.Nodes {
			if got[to[i]] != want[i] || h.Nodes[to[i]].Sort != n.Sort {
				t.Fatalf("%v, %v: node %d has become %d of %v", g, vars, i, to[i], h)
			}
			k, replaced := instead[i]
			affected[i] = replaced && k != i || slices.ContainsFunc(n.Kids, func(k int) bool { return affected[k] })
			if !affected[i] && to[i] != i {
				t.Fatalf("%v, %v: node %d has become %d", g, vars, i, to[i])
			}
		}
		// New nodes are in the order of the nodes that become them, each of which is new.
		last := len(g.Nodes)
		for _, k := range to {
			if k > last {
				t.Fatalf("%v, %v: %v", g, vars, to)
			}
			if k == last {
				last++
			}
		}
		if last != len(h.Nodes) {
			t.Fatalf("%v, %v: %v has nodes that nothing has become", g, vars, h)
		}
	}
}
