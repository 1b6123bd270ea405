package term_test

import (
	"math"
	"slices"
	"testing"

	"enthymeme/api"
	"enthymeme/term"
)

// P7.2: new nodes, and nodes that are there.
func TestAdd(t *testing.T) {
	x, y := variable("x", bv(8)), variable("y", bv(8))
	g := graph(t, x, y)
	for i, c := range []struct {
		n      N
		want   N
		number int
	}{
		{x, x, 0}, {y, y, 1},
		{variable("x2", bv(8)), variable("x2", bv(8)), 2}, {variable("x", bv(8)), x, 0},
		{op(api.Add, 0, 1), sorted(op(api.Add, 0, 1), bv(8)), 2},
		// The Sort that comes with it does not matter, but for Var, Num and Zero.
		{sorted(op(api.Add, 0, 1), bv(99)), sorted(op(api.Add, 0, 1), bv(8)), 2}, {sorted(op(api.Eq, 0, 1), str(3)), sorted(op(api.Eq, 0, 1), bv(1)), 2},
		{sorted(N{Op: api.Text, Text: "ab"}, ars(9, 9)), sorted(N{Op: api.Text, Text: "ab"}, str(2)), 2},
		{num(3, 8), num(3, 8), 2}, {N{Op: api.Zero, Sort: ars(3, 4)}, N{Op: api.Zero, Sort: ars(3, 4)}, 2},
		// No kids are nil or empty.
		{N{Op: api.Var, Kids: []int{}, Text: "x", Sort: bv(8)}, x, 0}, {N{Op: api.Num, Kids: []int{}, Sort: bv(8)}, num(0, 8), 2},
	} {
		h, number, e := term.Add(g, c.n)
		if number != c.number || e != api.OK || !begins(h, g) || !same(h.Nodes[number], c.want) || len(h.Nodes) != max(2, c.number+1) {
			t.Errorf("%d: %v: %v, %d, %d", i, c.n, h, number, e)
		}
	}
	if h, number, e := term.Add(G{}, N{Op: api.Text}); number != 0 || e != api.OK || !alike(h, G{[]N{sorted(N{Op: api.Text}, str(0))}}) {
		t.Errorf("an empty text is %v, %d, %d", h, number, e)
	}
}

// P7.2: nodes that differ in one field are different nodes.
func TestDifferent(t *testing.T) {
	nodes := []N{
		variable("x", bv(8)), variable("xx", bv(8)), variable("s", str(5)), variable("a", arr(8, 2)),
		num(0, 8), num(1, 8), num(1, 7), num(1, 64), {Op: api.Text}, {Op: api.Text, Text: "\x00"}, {Op: api.Text, Text: "\x00\x00"}, {Op: api.Text, Text: "x"},
		{Op: api.Zero, Sort: arr(8, 2)}, {Op: api.Zero, Sort: arr(8, 3)}, {Op: api.Zero, Sort: arr(7, 2)}, {Op: api.Zero, Sort: ars(8, 2)},
		op(api.Not, 0), op(api.Neg, 0), op(api.Not, 1), op(api.Not, 16), op(api.And, 0, 1), op(api.And, 1, 0), op(api.And, 0, 0), op(api.Or, 0, 1),
		sized(api.Extract, 3, 0, 0), sized(api.Extract, 3, 1, 0), sized(api.Extract, 4, 1, 0), sized(api.Extract, 0, 0, 0), sized(api.Zext, 3, 0, 0), sized(api.Sext, 3, 0, 0), sized(api.Zext, 4, 0, 0),
		sized(api.Byte, 0, 0, 2), sized(api.Byte, 1, 0, 2), sized(api.Byte, 0, 0, 8), {Op: api.In, Text: "'a'", Kids: []int{2}}, {Op: api.In, Text: "'b'", Kids: []int{2}}, {Op: api.In, Text: "'a'", Kids: []int{8}},
		op(api.Len, 2), op(api.Find, 2, 8), op(api.Cat, 2, 8), op(api.Cat, 8, 2),
	}
	g := graph(t, nodes...)
	for i, n := range nodes {
		if h, number, e := term.Add(g, n); number != i || e != api.OK || !alike(h, g) {
			t.Errorf("node %d again: %d, %d in %v", i, number, e, h)
		}
		if number, found := term.Find(g, n); number != i || !found {
			t.Errorf("node %d is found as %d, %v", i, number, found)
		}
		if number, found := term.Find(part(g, i), n); number != 0 || found {
			t.Errorf("node %d is found as %d, %v among those before it", i, number, found)
		}
	}
}

// P7.2: errors.
func TestAddErrors(t *testing.T) {
	g := graph(t, variable("x", bv(8)), variable("s", str(5)))
	for i, c := range []struct {
		n N
		e api.Errno
	}{
		{N{Op: 35}, api.ErrArg}, {op(api.Not, 2), api.ErrArg}, {variable("X", bv(8)), api.ErrName}, {variable("y", bv(0)), api.ErrSort}, {op(api.Not, 1), api.ErrSort}, {sized(api.Extract, 8, 0, 0), api.ErrRange}, {N{Op: api.In, Text: "a", Kids: []int{1}}, api.ErrForm}, {variable("x", bv(7)), api.ErrTwice},
	} {
		if h, number, e := term.Add(g, c.n); len(h.Nodes) != 0 || number != 0 || e != c.e {
			t.Errorf("%d: %v, %d, %d, not %d", i, h, number, e, c.e)
		}
		if number, found := term.Find(g, c.n); number != 0 || found {
			t.Errorf("%d: found as %d, %v", i, number, found)
		}
	}
}

// P7.2: 4096 nodes are the limit, and its error is the last one.
func TestAddLimit(t *testing.T) {
	full := fullGraph()
	g, number, e := term.Add(part(full, 4095), full.Nodes[4095])
	if number != 4095 || e != api.OK || !alike(g, full) {
		t.Fatalf("the last node is %d, %d", number, e)
	}
	for _, i := range []int{0, 1, 4095} {
		if h, number, e := term.Add(full, full.Nodes[i]); number != i || e != api.OK || !alike(h, full) {
			t.Errorf("node %d again is %d, %d", i, number, e)
		}
		if number, found := term.Find(full, full.Nodes[i]); number != i || !found {
			t.Errorf("node %d is found as %d, %v", i, number, found)
		}
	}
	for _, c := range []struct {
		n N
		e api.Errno
	}{{num(4095, 12), api.ErrLimit}, {op(api.Not, 0), api.ErrLimit}, {variable("y", bv(1)), api.ErrLimit}, {num(4096, 12), api.ErrRange}, {variable("x", bv(1)), api.ErrTwice}, {op(api.Not, 4096), api.ErrArg}} {
		if h, number, e := term.Add(full, c.n); len(h.Nodes) != 0 || number != 0 || e != c.e {
			t.Errorf("%v: %d nodes, %d, %d, not %d", c.n, len(h.Nodes), number, e, c.e)
		}
		if number, found := term.Find(full, c.n); number != 0 || found {
			t.Errorf("%v is found as %d, %v", c.n, number, found)
		}
	}
}

// P7.2, P7.8: graphs that begin alike stay what they are, and nodes are kept as they were.
func TestAddSharesNothing(t *testing.T) {
	g := graph(t, variable("x", bv(8)), variable("y", bv(8)), op(api.Add, 0, 1))
	from, changed := roomy(g)
	kids := []int{0, 2, -9}
	h, number, e := term.Add(from, op(api.Mul, kids[:2]...))
	if e != api.OK || number != 3 || kids[2] != -9 || changed() {
		t.Fatalf("Mul is %d, %d, with %v", number, e, kids)
	}
	before := copied(h)
	kids[0], kids[1] = 7, 8
	if !alike(h, before) {
		t.Errorf("with the argument the graph has become %v", h)
	}
	// All of these begin as h does.
	var grown []G
	for u := range uint64(20) {
		k, _, e := term.Add(h, num(u, 8))
		if e != api.OK {
			t.Fatal(e)
		}
		l, _, e := term.Add(k, op(api.Not, 4))
		if e != api.OK {
			t.Fatal(e)
		}
		grown = append(grown, k, l)
	}
	for i, k := range grown {
		if !begins(k, before) || !same(k.Nodes[4], num(uint64(i/2), 8)) || len(k.Nodes) != 5+i%2 {
			t.Errorf("graph %d has become %v", i, k)
		}
	}
	if !alike(h, before) || changed() {
		t.Errorf("the graph has become %v", h)
	}
	// A graph that is returned as it is may be gone on with, too.
	again, _, _ := term.Add(h, h.Nodes[3])
	one, _, _ := term.Add(again, num(1, 8))
	two, _, _ := term.Add(h, num(2, 8))
	if one.Nodes[4].U != 1 || two.Nodes[4].U != 2 {
		t.Errorf("%v and %v", one, two)
	}
}

// P7.3: what makes a graph not valid.
func TestValid(t *testing.T) {
	x, s := variable("x", bv(8)), variable("s", str(5))
	not := sorted(op(api.Not, 0), bv(8))
	for i, c := range []struct {
		nodes []N
		e     api.Errno
	}{
		{nil, api.OK}, {[]N{}, api.OK}, {[]N{x}, api.OK}, {[]N{x, s, not}, api.OK}, {[]N{x, {Op: api.Not, Kids: []int{0}, Sort: bv(8)}, sorted(op(api.And, 0, 1), bv(8))}, api.OK},
		// The errors of SortOf.
		{[]N{{}}, api.ErrName}, {[]N{x, {Op: -1}}, api.ErrArg}, {[]N{x, {Op: 35, Sort: bv(8)}}, api.ErrArg}, {[]N{variable("X", bv(8))}, api.ErrName}, {[]N{x, variable("y", bv(65))}, api.ErrSort}, {[]N{s, not}, api.ErrSort}, {[]N{x, sorted(sized(api.Extract, 8, 0, 0), bv(9))}, api.ErrRange}, {[]N{s, {Op: api.In, Text: "a", Kids: []int{0}, Sort: bv(1)}}, api.ErrForm},
		// Kids are before: not the node itself, nor one behind it.
		{[]N{sorted(op(api.Not, 0), bv(8))}, api.ErrArg}, {[]N{sorted(op(api.Not, 1), bv(8)), x}, api.ErrArg}, {[]N{x, sorted(op(api.Not, 1), bv(8))}, api.ErrArg}, {[]N{x, sorted(op(api.And, 0, 2), bv(8)), not}, api.ErrArg}, {[]N{x, sorted(op(api.Not, -1), bv(8))}, api.ErrArg},
		// Other sorts.
		{[]N{x, sorted(not, bv(7))}, api.ErrSort}, {[]N{x, sorted(not, S{})}, api.ErrSort}, {[]N{x, sorted(not, str(8))}, api.ErrSort}, {[]N{x, sorted(not, S{Kind: api.BV, N: 8, Index: 1})}, api.ErrSort}, {[]N{x, sorted(op(api.Eq, 0, 0), bv(8))}, api.ErrSort}, {[]N{sorted(N{Op: api.Text, Text: "ab"}, str(3))}, api.ErrSort},
		// Equal nodes; variables of one name.
		{[]N{x, x}, api.ErrTwice}, {[]N{x, s, x}, api.ErrTwice}, {[]N{x, not, s, not}, api.ErrTwice}, {[]N{x, variable("x", bv(7))}, api.ErrTwice}, {[]N{x, s, variable("x", str(8))}, api.ErrTwice}, {[]N{num(1, 8), num(1, 8)}, api.ErrTwice}, {[]N{x, {Op: api.Var, Kids: []int{}, Text: "x", Sort: bv(8)}}, api.ErrTwice}, {[]N{num(1, 8), num(1, 7), num(2, 8)}, api.OK},
		// A node that is there, but with another sort.
		{[]N{x, not, sorted(not, bv(7))}, api.ErrSort},
		// The error of the first node that has one.
		{[]N{x, x, sorted(not, bv(7))}, api.ErrTwice}, {[]N{x, sorted(not, bv(7)), x}, api.ErrSort}, {[]N{x, variable("X", bv(8)), x}, api.ErrName}, {[]N{x, variable("y", bv(8)), {Op: 99}, variable("X", bv(8))}, api.ErrArg},
	} {
		g, changed := roomy(G{c.nodes})
		if e := term.Valid(g); e != c.e {
			t.Errorf("%d: %v: %d, not %d", i, c.nodes, e, c.e)
		}
		if changed() {
			t.Errorf("%d: the graph has become %v", i, g)
		}
	}
}

// P7.3: 4096 nodes are valid, and more are the first error.
func TestValidLimit(t *testing.T) {
	full := fullGraph()
	if e := term.Valid(full); e != api.OK {
		t.Errorf("4096 nodes: %d", e)
	}
	for _, n := range []N{num(4095, 12), {Op: 99}, full.Nodes[0]} {
		if e := term.Valid(G{append(full.Nodes[:4096:4096], n)}); e != api.ErrLimit {
			t.Errorf("with %v: %d", n, e)
		}
	}
	if e := term.Valid(G{make([]N, 4097)}); e != api.ErrLimit {
		t.Errorf("4097 times nothing: %d", e)
	}
	if e := term.Valid(G{make([]N, 4096)}); e != api.ErrName {
		t.Errorf("4096 times nothing: %d", e)
	}
	full.Nodes[4095] = full.Nodes[1]
	if e := term.Valid(full); e != api.ErrTwice {
		t.Errorf("the last node is there: %d", e)
	}
}

// P7.3: a valid graph with one fault.
func TestValidFaults(t *testing.T) {
	r := random(3)
	// wanted is P7.3, word by word.
	wanted := func(g G) api.Errno {
		for i, n := range g.Nodes {
			s, e := sortOf(part(g, i), n)
			if e != api.OK {
				return e
			}
			if s != n.Sort {
				return api.ErrSort
			}
			if slices.ContainsFunc(g.Nodes[:i], func(x N) bool { return same(x, n) }) {
				return api.ErrTwice
			}
		}
		return api.OK
	}
	got := map[api.Errno]int{}
	for range 3000 {
		g := copied(randomGraph(r, 1+r.IntN(30)))
		if e := term.Valid(g); e != api.OK {
			t.Fatalf("%v: %d", g, e)
		}
		n := &g.Nodes[r.IntN(len(g.Nodes))]
		switch r.IntN(6) {
		case 0:
			*n = g.Nodes[r.IntN(len(g.Nodes))]
		case 1:
			n.Sort.N++
		case 2:
			n.Text = "b"
		case 3:
			n.Op = r.IntN(len(operations))
		case 4:
			if len(n.Kids) > 0 {
				n.Kids[0] = r.IntN(len(g.Nodes) + 1)
			}
		case 5:
			n.N, n.M, n.U = r.IntN(3), r.IntN(3), r.Uint64N(3)
		}
		e := wanted(g)
		got[e]++
		if f := term.Valid(g); f != e {
			t.Fatalf("%v: %d, not %d", g, f, e)
		}
	}
	for _, e := range []api.Errno{api.OK, api.ErrArg, api.ErrSort, api.ErrTwice} {
		if got[e] < 20 {
			t.Errorf("the error %d occurs %d times", e, got[e])
		}
	}
}

// P7.4: what roots need.
func TestNeeds(t *testing.T) {
	// 0 x, 1 y, 2 c, 3 x + y, 4 Not y, 5 (x + y) * x, 6 Ite of c, 5 and 4, 7 z
	g := graph(t, variable("x", bv(8)), variable("y", bv(8)), variable("c", bv(1)), op(api.Add, 0, 1), op(api.Not, 1), op(api.Mul, 3, 0), op(api.Ite, 2, 5, 4), variable("z", str(3)))
	for i, c := range []struct{ roots, want []int }{
		{nil, nil}, {[]int{}, nil}, {[]int{0}, []int{0}}, {[]int{7}, []int{7}}, {[]int{3}, []int{0, 1, 3}}, {[]int{4}, []int{1, 4}}, {[]int{5}, []int{0, 1, 3, 5}}, {[]int{6}, []int{0, 1, 2, 3, 4, 5, 6}},
		{[]int{4, 0}, []int{0, 1, 4}}, {[]int{7, 2, 7}, []int{2, 7}}, {[]int{3, 1, 0, 3}, []int{0, 1, 3}}, {[]int{5, 4}, []int{0, 1, 3, 4, 5}},
	} {
		roots := slices.Clone(c.roots)
		if l, e := term.Needs(g, roots); !slices.Equal(l, c.want) || e != api.OK || !slices.Equal(roots, c.roots) {
			t.Errorf("%d: %v needs %v, %d, not %v", i, c.roots, l, e, c.want)
		}
	}
	for _, roots := range [][]int{{-1}, {8}, {0, 8}, {8, 0}, {6, 0, -1}, {math.MinInt}, {math.MaxInt}} {
		if l, e := term.Needs(g, roots); len(l) != 0 || e != api.ErrNone {
			t.Errorf("%v needs %v, %d", roots, l, e)
		}
	}
	if l, e := term.Needs(G{}, nil); len(l) != 0 || e != api.OK {
		t.Errorf("nothing needs %v, %d", l, e)
	}
	if l, e := term.Needs(G{}, []int{0}); len(l) != 0 || e != api.ErrNone {
		t.Errorf("without nodes, 0 needs %v, %d", l, e)
	}
}

// P7.4: kids of kids, word by word; variables.
func TestNeedsAndVars(t *testing.T) {
	r := random(4)
	for range 300 {
		g, changed := roomy(randomGraph(r, 1+r.IntN(40)))
		var roots []int
		for range r.IntN(4) {
			roots = append(roots, r.IntN(len(g.Nodes)))
		}
		needed := map[int]bool{}
		var need func(i int)
		need = func(i int) {
			needed[i] = true
			for _, k := range g.Nodes[i].Kids {
				need(k)
			}
		}
		for _, i := range roots {
			need(i)
		}
		var all, vars []int
		for i, n := range g.Nodes {
			if needed[i] {
				all = append(all, i)
			}
			if n.Op == api.Var {
				vars = append(vars, i)
			}
		}
		if l, e := term.Needs(g, roots); !slices.Equal(l, all) || e != api.OK {
			t.Fatalf("%v: %v needs %v, %d, not %v", g, roots, l, e, all)
		}
		if l := term.Vars(g); !slices.Equal(l, vars) {
			t.Fatalf("%v has the variables %v, not %v", g, l, vars)
		}
		if changed() {
			t.Fatalf("the graph has become %v", g)
		}
	}
	if l := term.Vars(G{}); len(l) != 0 {
		t.Errorf("no nodes have the variables %v", l)
	}
}

// P7.8: adding nodes again changes nothing, and all that is built is valid.
func TestShared(t *testing.T) {
	r := random(5)
	used := map[int]bool{}
	for range 300 {
		g := randomGraph(r, 1+r.IntN(14))
		for range 60 {
			n := randomNode(r, g)
			before := copied(g)
			h, number, e := term.Add(g, n)
			if !alike(g, before) {
				t.Fatalf("%v: the graph has become %v", n, g)
			}
			if e != api.OK {
				continue
			}
			used[n.Op] = true
			if !begins(h, g) || term.Valid(h) != api.OK {
				t.Fatalf("%v has become %v with %v", g, h, n)
			}
			if i, found := term.Find(g, n); found != (len(h.Nodes) == len(g.Nodes)) || found && i != number {
				t.Fatalf("%v is found in %v as %d, %v, and is %d", n, g, i, found, number)
			}
			again, same, e := term.Add(h, n)
			if i, found := term.Find(h, n); e != api.OK || same != number || !alike(again, h) || i != number || !found {
				t.Fatalf("%v is %d in %v, and again %d, and found as %d, %v", n, number, h, same, i, found)
			}
			g = h
		}
		for i, n := range g.Nodes {
			if h, number, e := term.Add(g, n); number != i || e != api.OK || !alike(h, g) {
				t.Fatalf("node %d of %v is %d, %d in %v", i, g, number, e, h)
			}
		}
	}
	if len(used) != len(operations) {
		t.Errorf("only %d operations were added", len(used))
	}
}
