package print_test

import (
	"math/rand/v2"
	"slices"
	"strings"
	"testing"

	"enthymeme/api"
	"enthymeme/parse"
	"enthymeme/print"
	"enthymeme/term"
)

// names are those of variables, with their sorts. Some are words of the language.
var names = []N{
	variable("b", bv(1)), variable("not", bv(1)), variable("c-1", bv(1)), variable("t", bv(7)), variable("declare", bv(7)), variable("k", bv(8)), variable("abcdefghijklmnop", bv(8)), variable("i", bv(2)), variable("j", bv(64)),
	variable("p", str(5)), variable("q", str(0)), variable("in", str(20)), variable("d", arr(2, 8)), variable("e", arr(7, 1)), variable("f", ars(2, 5)), variable("g", ars(8, 0)),
}

// normalTexts are those of regular expressions in normal form.
var normalTexts = []string{"none", "empty", "'a'", "['a'-'z']", "'a'*'b'", "'a'|'b'", "!none", `\x00`, "!'a'&!'b'", `'"'`, `[\x5c-\x7f]*`, "all()"}

// kidCounts are the numbers of kids of all operations.
var kidCounts = []int{0, 0, 0, 0, 1, 1, 2, 2, 2, 2, 2, 2, 2, 2, 2, 2, 2, 2, 2, 3, 2, 1, 1, 1, 2, 3, 2, 1, 1, 2, 3, 2, 3, 1, 1}

// randomNode is a node of an operation over a graph with nodes, which may have any error.
func randomNode(r *rand.Rand, g G, o int) N {
	n := N{Op: o}
	for range kidCounts[n.Op] {
		k := r.IntN(len(g.Nodes))
		if r.IntN(3) == 0 {
			// One of the last nodes, so that terms become deep.
			k = max(len(g.Nodes)-1-r.IntN(6), 0)
		}
		n.Kids = append(n.Kids, k)
	}
	switch n.Op {
	case api.Var:
		n = pick(r, names...)
	case api.Zero:
		n.Sort = pick(r, arr(2, 8), arr(7, 1), arr(16, 64), ars(2, 5), ars(8, 0))
	case api.Num:
		n = num(r.Uint64()>>r.IntN(64), pick(r, 1, 2, 7, 8, 64, 1+r.IntN(64)))
	case api.Text:
		for range r.IntN(pick(r, 4, 65)) {
			n.Text += string([]byte{pick(r, 'a', '"', '\\', '(', ' ', byte(r.IntN(256)))})
		}
	case api.In:
		n.Text = pick(r, normalTexts...)
	case api.Extract:
		n.M = r.IntN(g.Nodes[n.Kids[0]].Sort.N + 1)
		n.N = n.M + r.IntN(9)
	case api.Zext, api.Sext, api.Byte:
		n.N = r.IntN(64)
	}
	return n
}

// randomGraph is a valid graph with a number of nodes.
func randomGraph(r *rand.Rand, size int) G {
	g := G{Nodes: slices.Clone(names)}
	r.Shuffle(len(g.Nodes), func(i, j int) { g.Nodes[i], g.Nodes[j] = g.Nodes[j], g.Nodes[i] })
	g.Nodes = g.Nodes[:min(size, 4+r.IntN(len(names)-3))]
	for len(g.Nodes) < size {
		// Kids of most operations seldom fit, so they are tried again and again.
		o := r.IntN(len(words))
		for range 30 {
			if h, _, e := term.Add(g, randomNode(r, g, o)); e == api.OK {
				g = h
				break
			}
		}
	}
	return g
}

// randomScript is a proper script over a graph, unless it is too long.
func randomScript(r *rand.Rand, g G) parse.Script {
	s := parse.Script{Graph: g}
	_, depths := measured(g)
	var truths []int
	for i, n := range g.Nodes {
		if n.Sort == bv(1) && depths[i] <= 64 {
			truths = append(truths, i)
		}
	}
	declared := map[int]bool{}
	declareAll := func(node int) {
		needs, _ := term.Needs(g, []int{node})
		for _, i := range needs {
			if n := g.Nodes[i]; n.Op == api.Var && !declared[i] {
				declared[i] = true
				s.Commands = append(s.Commands, declare(n.Text, n.Sort, i))
			}
		}
	}
	for range r.IntN(12) {
		name := pick(r, "p", "q", "not", "b", "z-9", "abcdefghijklmnop")
		switch k := r.IntN(10); {
		case k < 2:
			declareAll(r.IntN(len(g.Nodes)))
		case k < 7 && len(truths) > 0:
			node := pick(r, truths...)
			declareAll(node)
			s.Commands = append(s.Commands, pick(r, assert(name, node), edit(name, node)))
		default:
			s.Commands = append(s.Commands, pick(r, retract(name), push, pop, check(r.IntN(1<<40+1)), check(r.IntN(20))))
		}
	}
	return s
}

// damage changes commands of a script.
func damage(r *rand.Rand, s *parse.Script) {
	l := s.Commands
	for range 1 + r.IntN(2) {
		if len(l) == 0 {
			return
		}
		i, j := r.IntN(len(l)), r.IntN(len(l))
		switch r.IntN(9) {
		case 0:
			l[i].Kind = r.IntN(9) - 1
		case 1:
			l[i].Name = pick(r, "", "p", "b", "A", "0", "abcdefghijklmnopq")
		case 2:
			l[i].Sort = pick(r, S{}, bv(1), bv(8), str(5), l[j].Sort)
		case 3, 4:
			l[i].Node = r.IntN(len(s.Graph.Nodes)+2) - 1
		case 5:
			l[i].N = pick(r, -1, 0, 1, 1<<40+1)
		case 6:
			l[i], l[j] = l[j], l[i]
		case 7:
			l = slices.Delete(l, i, i+1)
		case 8:
			l = slices.Insert(l, i, l[j])
		}
	}
	s.Commands = l
}

// P11.2, P11.4, P11.6, P11.7: nodes of graphs with all operations.
func TestTerms(t *testing.T) {
	r := random(2)
	used := map[int]int{}
	for range 400 {
		g := randomGraph(r, 1+r.IntN(70))
		before := copied(parse.Script{Graph: g}).Graph
		nodes := map[string]int{}
		for i, n := range g.Nodes {
			s, e := compareTerm(t, g, i)
			if e != api.OK {
				continue
			}
			used[n.Op]++
			if other, twice := nodes[s]; twice {
				t.Fatalf("%v: %d and %d are both %s", g, other, i, s)
			}
			nodes[s] = i
			if h, node, at, e := parse.Term(g, s); node != i || at != 0 || e != api.OK || !alike(h, g) {
				t.Fatalf("%v: %s is read as %d, %d, %d over %v", g, s, node, at, e, h)
			}
			if again, e := print.Term(G{Nodes: g.Nodes[:i+1+r.IntN(len(g.Nodes)-i)]}, i); again != s || e != api.OK {
				t.Fatalf("%v: %d has over a part the text %s, not %s", g, i, again, s)
			}
		}
		if !alike(g, before) {
			t.Fatalf("the graph has become %v", g)
		}
	}
	for o := range words {
		if used[o] < 10 {
			t.Errorf("%d nodes of the operation %d", used[o], o)
		}
	}
}

// P11.2, P11.4: nodes that are built of the last ones, so that they become deep and long.
func TestDeepTerms(t *testing.T) {
	r := random(6)
	met := map[string]int{}
	for range 40 {
		g := graph(t, variable("b", bv(1)), variable("c", bv(1)), num(1, 1))
		near := pick(r, 3, 8, 40)
		operations := pick(r, []int{api.Not, api.Neg}, []int{api.Not, api.Neg, api.And, api.Or, api.Add, api.Ult, api.Ite})
		for len(g.Nodes) < 150 {
			o := pick(r, operations...)
			var kids []int
			for range kidCounts[o] {
				kids = append(kids, max(len(g.Nodes)-1-r.IntN(near), 0))
			}
			g, _, _ = term.Add(g, op(o, kids...))
		}
		lengths, depths := measured(g)
		for i := range g.Nodes {
			s, e := compareTerm(t, g, i)
			switch {
			case depths[i] > 64 && !fits(lengths[i]):
				met["both"]++
			case depths[i] > 64:
				met["deep"]++
			case !fits(lengths[i]):
				met["long"]++
			default:
				met["fits"]++
				if h, node, at, f := parse.Term(g, s); node != i || at != 0 || f != api.OK || e != api.OK || !alike(h, g) {
					t.Fatalf("%v: %s is read as %d, %d, %d over %v", g, s, node, at, f, h)
				}
			}
		}
	}
	for _, what := range []string{"fits", "deep", "long", "both"} {
		if met[what] < 20 {
			t.Errorf("%s: %d nodes", what, met[what])
		}
	}
}

// P11.4, P11.6: numbers that differ in their widths alone, texts that look like others, and words as names.
func TestUnlike(t *testing.T) {
	var nodes []N
	for width := 1; width <= 64; width++ {
		nodes = append(nodes, num(0, width), num(1, width))
		if width > 1 {
			nodes = append(nodes, num(1<<(width-1), width))
		}
	}
	for _, word := range words[3:] {
		nodes = append(nodes, variable(word, bv(1)))
	}
	for _, s := range []string{"", "x", `"`, `\`, `\"`, `\\`, `\x00`, "\x00", "#b0", "(not not)", "not"} {
		nodes = append(nodes, text(s))
	}
	g := graph(t, nodes...)
	seen := map[string]bool{}
	for i := range g.Nodes {
		s, _ := compareTerm(t, g, i)
		if h, node, at, e := parse.Term(g, s); node != i || at != 0 || e != api.OK || !alike(h, g) {
			t.Errorf("%s is read as %d, %d, %d", s, node, at, e)
		}
		seen[s] = true
	}
	if len(seen) != len(g.Nodes) {
		t.Errorf("%d texts of %d nodes", len(seen), len(g.Nodes))
	}
}

// readBack checks P11.5 for a script and its text.
func readBack(t *testing.T, x parse.Script, s string) {
	t.Helper()
	y, at, e := parse.Parse(s)
	if at != 0 || e != api.OK || len(y.Commands) != len(x.Commands) {
		t.Fatalf("%s: %v, %d, %d", s, y, at, e)
	}
	for i, c := range y.Commands {
		want := x.Commands[i]
		if c.Kind <= parse.Edit {
			a, _ := wantedTerm(x.Graph, want.Node)
			if b, e := print.Term(y.Graph, c.Node); a != b || e != api.OK {
				t.Fatalf("%s: command %d has %s, %d, not %s", s, i, b, e, a)
			}
		}
		c.Node, want.Node = 0, 0
		if c != want {
			t.Fatalf("%s: command %d is %v, not %v", s, i, c, want)
		}
	}
	for i := range y.Graph.Nodes {
		if _, e := print.Term(y.Graph, i); e != api.OK {
			t.Fatalf("%s: node %d has no text: %d", s, i, e)
		}
	}
	if again, e := print.Script(y); again != s || e != api.OK {
		t.Fatalf("%s is printed again as %s, %d", s, again, e)
	}
}

// P11.3, P11.5, P11.7: proper scripts.
func TestScripts(t *testing.T) {
	r := random(3)
	kinds := map[int]int{}
	for range 2000 {
		x := randomScript(r, randomGraph(r, 1+r.IntN(60)))
		before := copied(x)
		s, e := compareScript(t, x)
		if !alike(x.Graph, before.Graph) || !slices.Equal(x.Commands, before.Commands) {
			t.Fatalf("%v has become %v", before, x)
		}
		if e != api.OK {
			if e != api.ErrLimit {
				t.Fatalf("%v: %d", x, e)
			}
			continue
		}
		readBack(t, x, s)
		for _, c := range x.Commands {
			kinds[c.Kind]++
		}
		// With other nodes behind those of the script nothing changes.
		if h, _, f := term.Join(x.Graph, randomGraph(r, 20)); f == api.OK {
			if again, e := print.Script(parse.Script{Graph: h, Commands: x.Commands}); again != s || e != api.OK {
				t.Fatalf("%s has become %s, %d", s, again, e)
			}
		}
	}
	for kind := range 7 {
		if kinds[kind] < 300 {
			t.Errorf("%d commands of the kind %d", kinds[kind], kind)
		}
	}
}

// P11.3: scripts with faults.
func TestDamaged(t *testing.T) {
	r := random(4)
	met := map[api.Errno]int{}
	for range 6000 {
		x := randomScript(r, randomGraph(r, 1+r.IntN(30)))
		damage(r, &x)
		s, e := compareScript(t, x)
		met[e]++
		if e == api.OK {
			readBack(t, x, s)
		}
	}
	for _, e := range []api.Errno{api.OK, api.ErrArg, api.ErrName, api.ErrNone, api.ErrSort, api.ErrTwice, api.ErrRange} {
		if met[e] < 20 {
			t.Errorf("the error %d occurs %d times", e, met[e])
		}
	}
}

// P11.2, P11.3: graphs with faults.
func TestDamagedGraphs(t *testing.T) {
	r := random(5)
	met := map[api.Errno]int{}
	for range 2000 {
		x := copied(randomScript(r, randomGraph(r, 2+r.IntN(20))))
		n := &x.Graph.Nodes[r.IntN(len(x.Graph.Nodes))]
		switch r.IntN(6) {
		case 0:
			n.Op = r.IntN(37) - 1
		case 1:
			n.Sort = pick(r, bv(1), bv(8), bv(65), str(3), arr(2, 8))
		case 2:
			n.Text = pick(r, "", "b", "A", strings.Repeat("a", 17))
		case 3:
			n.Kids = append(n.Kids, 0)
		case 4:
			n.U, n.N = r.Uint64N(300), r.IntN(3)
		case 5:
			*n = x.Graph.Nodes[r.IntN(len(x.Graph.Nodes))]
		}
		_, e := compareScript(t, x)
		met[e]++
		compareTerm(t, x.Graph, r.IntN(len(x.Graph.Nodes)+2)-1)
	}
	for _, e := range []api.Errno{api.OK, api.ErrArg, api.ErrSort, api.ErrTwice} {
		if met[e] < 20 {
			t.Errorf("the error %d occurs %d times", e, met[e])
		}
	}
}

// P11.5: what is read from texts, and printed, is read back, whatever the texts are.
func TestReadAndPrinted(t *testing.T) {
	for _, s := range []string{
		"", " ; nothing", "(declare a (bv 8))(define (m (x (bv 8))) (add x x))(assert p (eq (m a) #x00))", "(declare not (bv 1))(assert p (not not))(edit p not)", "(push)(pop)(check 1099511627776)(retract x-1)", "(assert p (eq (num 5 8) #b00000101))", `(declare s (str 4))(assert q (in " 'b' | 'a' | none" s))`, `(assert q (eq "\x41" (cat "" "A")))`, "(assert q (eq (zero(arr 3 8))(store (zero (arr 3 8)) #b101 #xff)))",
		"(declare a (arr 2 8))(declare b (ars 16 0))(define (t) #b1)(define (f (t (bv 1))) (and t (not t)))(assert q (f t))",
		"(declare c (bv 1))(assert p " + strings.Repeat("(not ", 64) + "c" + strings.Repeat(")", 64) + ")",
	} {
		x, _, e := parse.Parse(s)
		if e != api.OK {
			t.Fatalf("%s: %d", s, e)
		}
		text, e := compareScript(t, x)
		if e != api.OK {
			t.Fatalf("%s: %d", s, e)
		}
		readBack(t, x, text)
	}
}
