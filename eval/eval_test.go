package eval_test

import (
	"math"
	"slices"
	"strconv"
	"testing"
	"time"

	"enthymeme/api"
	"enthymeme/eval"
	"enthymeme/term"
	"enthymeme/value"
)

// mixed returns a graph with variables of all kinds, and a model of it with one variable more.
func mixed(t *testing.T) (G, M) {
	t.Helper()
	g := graph(t,
		variable("y", bv(8)), variable("x", bv(8)), op(api.Add, 1, 0), // 2: x + y
		op(api.Ult, 1, 0), variable("a", arr(8, 8)), op(api.Store, 4, 1, 2), // 5: a with x + y at x
		op(api.Select, 5, 0), op(api.Ite, 3, 4, 5), op(api.Diff, 4, 5), // 8
		variable("s", str(3)), N{Op: api.Text, Text: "b"}, op(api.Cat, 9, 10), op(api.Find, 11, 10), // 12
		in("'a'*'b'", 11), op(api.Char, 1), N{Op: api.Num, U: 5, Sort: bv(8)}, op(api.Eq, 15, 0), // 16
	)
	m := model("a", of(arr(8, 8), bit(5, 9)), "other", txt("o", 1), "s", txt("aa", 3), "x", num(3, 8), "y", num(5, 8))
	return g, m
}

// P8.3: all nodes, with names in another order than that of the variables.
func TestOf(t *testing.T) {
	g, m := mixed(t)
	octets := arr(8, 8)
	want := []V{
		num(5, 8), num(3, 8), num(8, 8), num(1, 1), of(octets, bit(5, 9)), of(octets, bit(3, 8), bit(5, 9)), num(9, 8), of(octets, bit(5, 9)), num(3, 8),
		txt("aa", 3), txt("b", 1), txt("aab", 4), num(2, 7), num(1, 1), txt("\x03", 1), num(5, 8), num(1, 1),
	}
	from, graphChanged := roomyGraph(g)
	under, changed := roomy(m)
	got, e := eval.Of(from, under)
	if e != api.OK || !alike(got, want) {
		t.Errorf("%v, %d, not %v", got, e, want)
	}
	scribble(got)
	if changed() || graphChanged() {
		t.Error("the values share memory with the arguments")
	}
	for i, x := range []struct {
		g G
		m M
	}{{G{}, M{}}, {G{Nodes: []N{}}, m}, {G{}, M{Names: []string{}, Values: []V{}}}} {
		if got, e := eval.Of(x.g, x.m); len(got) != 0 || e != api.OK {
			t.Errorf("%d: without nodes: %v, %d", i, got, e)
		}
	}
	if got, e := eval.Of(graph(t, N{Op: api.Text, Text: "b"}), M{}); !alike(got, []V{txt("b", 1)}) || e != api.OK {
		t.Errorf("without variables: %v, %d", got, e)
	}
}

// failing returns graphs and models with the errors that Of, Truth and Complete have in common, and none.
func failing(t *testing.T) []struct {
	g G
	m M
	e api.Errno
} {
	t.Helper()
	x, y := variable("x", bv(8)), variable("y", bv(8))
	g := graph(t, y, x)
	good := model("x", num(1, 8), "y", num(2, 8))
	unsorted := G{Nodes: []N{x, {Op: api.Not, Kids: []int{0}, Sort: bv(7)}}}
	later := G{Nodes: []N{{Op: api.Not, Kids: []int{1}, Sort: bv(8)}, x}}
	bad := M{Names: []string{"X"}, Values: []V{num(1, 8)}}
	full := fullGraph()
	return []struct {
		g G
		m M
		e api.Errno
	}{
		{unsorted, good, api.ErrSort}, {later, good, api.ErrArg}, {G{Nodes: []N{x, x}}, good, api.ErrTwice}, {G{Nodes: append(full.Nodes, x)}, good, api.ErrLimit}, {G{Nodes: []N{variable("X", bv(8))}}, good, api.ErrName},
		{G{Nodes: []N{x, {Op: api.Extract, N: 8, Kids: []int{0}}}}, good, api.ErrRange}, {G{Nodes: []N{variable("s", str(1)), {Op: api.In, Text: "?", Kids: []int{0}, Sort: bv(1)}}}, good, api.ErrForm},
		{later, bad, api.ErrArg}, {unsorted, bad, api.ErrSort}, {later, model("x", num(1, 7)), api.ErrArg}, {unsorted, M{}, api.ErrSort},
		{g, bad, api.ErrName}, {g, M{Names: []string{"x"}}, api.ErrArg}, {g, model("y", num(1, 8), "x", num(1, 8)), api.ErrOrder}, {g, model("x", num(1, 0)), api.ErrSort}, {g, model("x", num(1, 8), "y", num(256, 8)), api.ErrArg}, {G{}, bad, api.ErrName}, {g, model("y", num(1, 7), "y", num(1, 7)), api.ErrOrder},
		{g, model("x", num(1, 7), "y", num(2, 8)), api.ErrSort}, {g, model("x", num(1, 8), "y", txt("", 8)), api.ErrSort}, {graph(t, variable("s", str(2))), model("s", txt("", 3)), api.ErrSort}, {graph(t, variable("s", arr(8, 2))), model("s", of(arr(8, 3))), api.ErrSort},
	}
}

// fullGraph has 4096 nodes: numbers.
func fullGraph() G {
	var g G
	for i := range uint64(4096) {
		g.Nodes = append(g.Nodes, N{Op: api.Num, U: i, Sort: bv(12)})
	}
	return g
}

// P8.3: errors in their order.
func TestOfErrors(t *testing.T) {
	fails := func(i int, g G, m M, want api.Errno) {
		t.Helper()
		if got, e := eval.Of(g, m); len(got) != 0 || e != want {
			t.Errorf("%d: %v, %d, not %d", i, got, e, want)
		}
	}
	for i, x := range failing(t) {
		fails(i, x.g, x.m, x.e)
	}
	x, y := variable("x", bv(8)), variable("y", bv(8))
	for i, k := range []struct {
		nodes []N
		m     M
		e     api.Errno
	}{
		{[]N{x}, M{}, api.ErrNone}, {[]N{x}, model("w", num(1, 8), "y", num(1, 8)), api.ErrNone}, {[]N{x}, model("xx", num(1, 8)), api.ErrNone}, {[]N{x, op(api.Not, 0), y}, model("x", num(1, 8)), api.ErrNone},
		// In the order of the graph, not of the names.
		{[]N{y, x}, model("x", num(1, 7)), api.ErrNone}, {[]N{x, y}, model("x", num(1, 7)), api.ErrSort}, {[]N{y, x}, model("y", num(1, 7)), api.ErrSort}, {[]N{x, y}, model("y", num(1, 7)), api.ErrNone},
	} {
		fails(i, graph(t, k.nodes...), k.m, k.e)
	}
}

// P8.7: what is no variable has the value that Node says; all values are valid, with the sorts of the nodes.
func TestNodeByNode(t *testing.T) {
	r := random(4)
	done := map[int]bool{}
	for range 400 {
		g := randomGraph(r, r.IntN(60))
		m := randomModel(r, g)
		values, e := eval.Of(g, m)
		if e != api.OK || len(values) != len(g.Nodes) {
			t.Fatalf("%v under %v: %v, %d", g, m, values, e)
		}
		for i, n := range g.Nodes {
			done[n.Op] = true
			if value.Valid(values[i]) != api.OK || values[i].Sort != n.Sort {
				t.Fatalf("%v under %v: node %d is %v", g, m, i, values[i])
			}
			var want V
			if n.Op == api.Var {
				want = m.Values[slices.Index(m.Names, n.Text)]
			} else {
				var kids []V
				for _, k := range n.Kids {
					kids = append(kids, values[k])
				}
				v, e := eval.Node(n, kids)
				if want = meaning(n, n.Sort, kids); e != api.OK || !same(v, want) {
					t.Fatalf("%v of %v: %v, %d, not %v", n, kids, v, e, want)
				}
			}
			if !same(values[i], want) {
				t.Fatalf("%v under %v: node %d is %v, not %v", g, m, i, values[i], want)
			}
		}
	}
	for o := range api.Char + 1 {
		if !done[o] {
			t.Errorf("no graph has the operation %d", o)
		}
	}
}

// No two values of a result share memory, and none does with an argument.
func TestOfMemory(t *testing.T) {
	s := arr(8, 2)
	g := graph(t, variable("a", s), variable("b", s), variable("c", bv(1)), op(api.Ite, 2, 0, 1), op(api.Ite, 2, 1, 0), op(api.Ite, 2, 0, 3), N{Op: api.Num, U: 0, Sort: bv(2)}, op(api.Select, 0, 6), op(api.Store, 0, 6, 7), op(api.Store, 3, 6, 7))
	m := model("a", of(s, bit(0, 4), bit(3, 5)), "b", of(s, bit(1, 6)), "c", num(1, 1))
	want, e := eval.Of(g, m)
	if e != api.OK {
		t.Fatal(e)
	}
	want = copied(want)
	for i := range want {
		under, changed := roomy(m)
		got, _ := eval.Of(g, under)
		scribble(got[i : i+1 : i+1])
		for k := range got {
			if k != i && !same(got[k], want[k]) {
				t.Errorf("%d and %d share memory", i, k)
			}
		}
		if changed() {
			t.Errorf("%d shares memory with the model", i)
		}
	}
}

// P8.4: truth values, and errors in their order.
func TestTruth(t *testing.T) {
	g, m := mixed(t)
	for i, x := range []struct {
		node int
		want bool
		e    api.Errno
	}{
		{3, true, api.OK}, {13, true, api.OK}, {16, true, api.OK},
		{0, false, api.ErrSort}, {4, false, api.ErrSort}, {9, false, api.ErrSort}, {14, false, api.ErrSort}, {12, false, api.ErrSort},
		{-1, false, api.ErrNone}, {17, false, api.ErrNone}, {math.MinInt, false, api.ErrNone}, {math.MaxInt, false, api.ErrNone},
	} {
		from, graphChanged := roomyGraph(g)
		under, changed := roomy(m)
		if ok, e := eval.Truth(from, under, x.node); ok != x.want || e != x.e {
			t.Errorf("%d: node %d is %v, %d", i, x.node, ok, e)
		}
		if changed() || graphChanged() {
			t.Errorf("%d: the arguments have changed", i)
		}
	}
	m.Values[3].U, m.Values[4].U = 6, 6
	for _, node := range []int{3, 16} {
		if ok, e := eval.Truth(g, m, node); ok || e != api.OK {
			t.Errorf("with x and y 6, node %d is %v, %d", node, ok, e)
		}
	}
	for i, x := range failing(t) {
		for _, node := range []int{-1, 0, 1, 5000} {
			if ok, e := eval.Truth(x.g, x.m, node); ok || e != x.e {
				t.Errorf("failing %d, node %d: %v, %d", i, node, ok, e)
			}
		}
	}
	// All variables need values, also those that the node does not consist of.
	two := graph(t, variable("p", bv(1)), variable("q", bv(1)), op(api.Not, 0))
	if ok, e := eval.Truth(two, model("p", num(0, 1)), 2); ok || e != api.ErrNone {
		t.Errorf("without q: %v, %d", ok, e)
	}
	if ok, e := eval.Truth(two, model("p", num(0, 1), "q", num(0, 1)), 2); !ok || e != api.OK {
		t.Errorf("with q: %v, %d", ok, e)
	}
	if ok, e := eval.Truth(G{}, M{}, 0); ok || e != api.ErrNone {
		t.Errorf("without nodes: %v, %d", ok, e)
	}
	// A string and arrays of size 1 have not one bit.
	ones := graph(t, variable("a", arr(1, 1)), variable("s", str(1)))
	for node := range 2 {
		if ok, e := eval.Truth(ones, model("a", of(arr(1, 1)), "s", txt("", 1)), node); ok || e != api.ErrSort {
			t.Errorf("node %d: %v, %d", node, ok, e)
		}
	}
}

// P8.4: against Of.
func TestTruthOf(t *testing.T) {
	r := random(5)
	for range 100 {
		g := randomGraph(r, r.IntN(30))
		m := randomModel(r, g)
		values, e := eval.Of(g, m)
		if e != api.OK {
			t.Fatal(e)
		}
		for i, v := range values {
			want := api.OK
			if v.Sort != bv(1) {
				want = api.ErrSort
			}
			if ok, e := eval.Truth(g, m, i); e != want || ok != (want == api.OK && v.U == 1) {
				t.Fatalf("node %d of %v under %v, which is %v: %v, %d", i, g, m, v, ok, e)
			}
		}
	}
}

// P8.8: under replaced variables.
func TestReplaced(t *testing.T) {
	r := random(6)
	for range 400 {
		g := randomGraph(r, 1+r.IntN(40))
		m := randomModel(r, g)
		values, e := eval.Of(g, m)
		if e != api.OK {
			t.Fatal(e)
		}
		var vars [][2]int
		other := M{Names: m.Names, Values: slices.Clone(m.Values)}
		for _, v := range term.Vars(g) {
			if n := r.IntN(len(g.Nodes)); g.Nodes[n].Sort == g.Nodes[v].Sort {
				vars = append(vars, [2]int{v, n})
				other.Values[slices.Index(m.Names, g.Nodes[v].Text)] = values[n]
			}
		}
		h, to, e := term.Replace(g, vars)
		if e != api.OK {
			t.Fatal(e)
		}
		replaced, e := eval.Of(h, m)
		if e != api.OK {
			t.Fatal(e)
		}
		want, e := eval.Of(g, other)
		if e != api.OK {
			t.Fatal(e)
		}
		for i, k := range to {
			if !same(replaced[k], want[i]) {
				t.Fatalf("%v, %v: node %d is %v, not %v", g, vars, i, replaced[k], want[i])
			}
		}
	}
}

// P8.8: after Join.
func TestJoined(t *testing.T) {
	r := random(7)
	for range 200 {
		g, h := randomGraph(r, r.IntN(40)), randomGraph(r, r.IntN(40))
		joined, to, e := term.Join(g, h)
		if e != api.OK {
			t.Fatal(e)
		}
		m := randomModel(r, joined)
		values, e := eval.Of(joined, m)
		if e != api.OK {
			t.Fatal(e)
		}
		first, e := eval.Of(g, m)
		if e != api.OK || !alike(values[:len(g.Nodes)], first) {
			t.Fatalf("%v, %d, not %v", first, e, values[:len(g.Nodes)])
		}
		second, e := eval.Of(h, m)
		if e != api.OK || len(second) != len(to) {
			t.Fatal(second, e)
		}
		for i, k := range to {
			if !same(values[k], second[i]) {
				t.Fatalf("node %d of %v is %v, and %v after Join", i, h, second[i], values[k])
			}
		}
	}
}

// Graphs and models of the greatest sizes take no more than moments.
func TestLarge(t *testing.T) {
	begin := time.Now()
	var g G
	var m M
	for i := range 2048 {
		g.Nodes = append(g.Nodes, variable("v"+strconv.Itoa(10000+i), bv(64)))
		m.Names = append(m.Names, "v"+strconv.Itoa(10000+i))
		m.Values = append(m.Values, num(uint64(i), 64))
	}
	for i := range 2047 {
		n := op(api.Add, i, i+1)
		n.Sort = bv(64)
		g.Nodes = append(g.Nodes, n)
	}
	g.Nodes = append(g.Nodes, N{Op: api.Ult, Kids: []int{0, 1}, Sort: bv(1)})
	values, e := eval.Of(g, m)
	if e != api.OK || len(values) != 4096 || !same(values[2048+2046], num(2046+2047, 64)) {
		t.Errorf("%d values, %d", len(values), e)
	}
	if ok, e := eval.Truth(g, m, 4095); !ok || e != api.OK {
		t.Errorf("%v, %d", ok, e)
	}
	s := arr(64, 16)
	full := elements(s, func(i uint64) V { return num(^i, 64) })
	h := graph(t, variable("a", s), variable("i", bv(16)), op(api.Select, 0, 1), op(api.Store, 0, 1, 2), op(api.Eq, 0, 3), op(api.Diff, 0, 3))
	values, e = eval.Of(h, model("a", full, "i", num(65535, 16)))
	if e != api.OK || !same(values[2], num(^uint64(65535), 64)) || !same(values[4], num(1, 1)) || !same(values[5], num(0, 16)) {
		t.Errorf("%v, %d", values[4:], e)
	}
	if d := time.Since(begin); d > 20*time.Second {
		t.Errorf("it took %v", d)
	}
}
