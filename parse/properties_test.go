package parse_test

import (
	"slices"
	"strings"
	"testing"

	"enthymeme/api"
	"enthymeme/lexer"
	"enthymeme/parse"
	"enthymeme/term"
)

// made returns some commands, all of which are right, and their script; it makes others as long as they are too large.
func made(t *testing.T, m *maker, most int) ([]tree, parse.Script) {
	t.Helper()
	for {
		m.vars, m.macros = nil, nil
		commands := m.commands(most)
		s := textOf(commands)
		x, at, e := parse.Parse(s)
		if e == api.OK && at == 0 {
			return commands, x
		}
		if e != api.ErrLimit {
			t.Fatalf("%.5000q: %d, %d", s, at, e)
		}
	}
}

// P10.1, P10.7: scripts that are right.
func TestRandomScripts(t *testing.T) {
	m := &maker{Rand: random(1)}
	used := map[int]bool{}
	kinds := map[int]bool{}
	for range 3000 {
		commands, x := made(t, m, 14)
		compare(t, textOf(commands))
		if e := term.Valid(x.Graph); e != api.OK {
			t.Fatalf("%s: %d", textOf(commands), e)
		}
		for _, n := range x.Graph.Nodes {
			used[n.Op] = true
		}
		for _, c := range x.Commands {
			kinds[c.Kind] = true
			if c.Kind == Assert || c.Kind == Edit {
				if x.Graph.Nodes[c.Node].Sort != bv(1) {
					t.Fatalf("%s: %v", textOf(commands), c)
				}
			}
		}
	}
	if len(used) != len(words) || len(kinds) != 7 {
		t.Errorf("operations %v, commands %v", used, kinds)
	}
}

// P10.2: texts with faults.
func TestDamaged(t *testing.T) {
	m := &maker{Rand: random(2)}
	met := tally{}
	for range 30000 {
		m.vars, m.macros = nil, nil
		tokens := damaged(m.Rand, tokensOf(m.commands(10)))
		met[compare(t, written(tokens))]++
	}
	met.need(t, 20, api.OK, api.ErrMore, api.ErrForm, api.ErrName, api.ErrSort, api.ErrTwice, api.ErrRange)
	met.need(t, 5, api.ErrLimit)
}

// P10.2, P10.3: terms with faults over graphs.
func TestDamagedTerms(t *testing.T) {
	m := &maker{Rand: random(3)}
	met := tally{}
	for range 3000 {
		m.vars, m.macros = nil, nil
		_, x := made(t, m, 10)
		for range 5 {
			s := m.term(pick(m.Rand, sorts...), m.IntN(5))
			m.macros = nil
			compareTerm(t, x.Graph, written(s.tokens()))
			met[compareTerm(t, x.Graph, written(damaged(m.Rand, s.tokens())))]++
		}
	}
	met.need(t, 20, api.OK, api.ErrMore, api.ErrForm, api.ErrName, api.ErrSort, api.ErrRange)
}

// P10.2: all short texts of some tokens behind a few others.
func TestShortTexts(t *testing.T) {
	for _, x := range []struct {
		before string
		tokens []string
		most   int
	}{
		{"", []string{"(", ")", "push", "declare", "a", "5"}, 6},
		{"(declare a (bv 1))(define (m) a)(define (n (x (bv 1))) m) (assert q ", []string{"(", ")", "a", "m", "n", "not", "#b1", "0"}, 5},
		{"(declare ", []string{"(", ")", "a", "bv", "arr", "1", "0"}, 6},
		{"(define (m ", []string{"(", ")", "x", "(x(bv 1))", "(y(bv 1))", "#b1"}, 6},
		{"(define (m) ", []string{"(", ")", "(assert p m)", "x", "5", "\"\""}, 6},
		{"(declare s (str 1))(assert p (", []string{"in", "num", "extract", "zero", "\"'a'\"", "s", "1", "(", ")", "(bv 1)"}, 5},
	} {
		var all func(s string, left int)
		all = func(s string, left int) {
			compare(t, s)
			if left == 0 {
				return
			}
			for _, token := range x.tokens {
				all(s+" "+token, left-1)
			}
		}
		all(x.before, x.most)
	}
}

// P10.2: any bytes.
func TestAnyBytes(t *testing.T) {
	r := random(4)
	g := over(t)
	for range 30000 {
		s := drawn(r, r.IntN(20), pick(r, "()ab01 ", "()#\"\\;a\n", "(a)x \x00\xff"))
		compare(t, s)
		compareTerm(t, g, s)
	}
}

// P10.4
func TestBack(t *testing.T) {
	m := &maker{Rand: random(5)}
	count := 0
	for range 600 {
		_, x := made(t, m, 14)
		all, depths := texts(x.Graph)
		for i, s := range all {
			if s == "" || depths[i] > 64 {
				continue
			}
			count++
			if g, node := termOver(t, x.Graph, s); node != i || !alike(g, x.Graph) {
				t.Fatalf("%s: %d, not %d", s, node, i)
			}
			if depths[i] == 0 {
				continue
			}
			// Over a part of the graph it is a new node.
			g, node := termOver(t, G{Nodes: x.Graph.Nodes[:i]}, s)
			if node != i || !alike(g, G{Nodes: x.Graph.Nodes[:i+1]}) {
				t.Fatalf("%s: %d, not %d", s, node, i)
			}
		}
	}
	if count < 5000 {
		t.Errorf("%d texts", count)
	}
}

// P10.4: all that texts of nodes have is read back: numbers of all widths, and all bytes.
func TestBackLeaves(t *testing.T) {
	r := random(6)
	var nodes []N
	for width := 1; width <= 64; width++ {
		nodes = append(nodes, num(0, width), num(1<<width-1, width), num(1<<(width-1), width), num(r.Uint64()>>(64-width), width))
	}
	for c := range 256 {
		nodes = append(nodes, text(string([]byte{byte(c)})), text(string([]byte{'a', byte(c), '"'})))
	}
	for size := range 65 {
		nodes = append(nodes, text(drawn(r, size, "ab\x00\"")))
	}
	for i, n := range nodes {
		g, node, e := term.Add(G{}, n)
		if e != api.OK {
			t.Fatal(i, n, e)
		}
		if h, again := termOver(t, g, nodeText(n, nil)); again != node || !alike(h, g) {
			t.Errorf("%v: %v", n, h)
		}
	}
}

// meansSame reports whether a script with macros has the commands of one without. All nodes of this one are in its graph: others are only those for parameters that a body does not name.
func meansSame(x, plain parse.Script) bool {
	g, becomes, e := term.Join(x.Graph, plain.Graph)
	if e != api.OK || !alike(g, x.Graph) {
		return false
	}
	commands := slices.Clone(plain.Commands)
	for i := range commands {
		if commands[i].Kind <= Edit {
			commands[i].Node = becomes[commands[i].Node]
		}
	}
	return slices.Equal(commands, x.Commands)
}

// P10.5
func TestMacros(t *testing.T) {
	m := &maker{Rand: random(7)}
	calls := 0
	for range 1500 {
		commands, x := made(t, m, 14)
		var plain []tree
		for _, c := range commands {
			if c.list[0].token != "define" {
				plain = append(plain, c.expanded(nil))
			}
		}
		s := textOf(plain)
		y, _, e := parse.Parse(s)
		if e == api.ErrLimit {
			continue
		}
		if e != api.OK {
			t.Fatalf("%s\n%s: %d", textOf(commands), s, e)
		}
		if !meansSame(x, y) {
			t.Fatalf("%s: %v\n%s: %v", textOf(commands), x, s, y)
		}
		if len(s) != len(textOf(commands)) {
			calls++
		}
	}
	if calls < 700 {
		t.Errorf("%d scripts with macros", calls)
	}
}

// P10.5: what names stand for.
func TestScopes(t *testing.T) {
	const before = "(declare a (bv 1))(declare b (bv 1))(declare p (bv 1))"
	for _, c := range [][2]string{
		{"(define (m) a)(assert q m)", "(assert q a)"}, {"(define (m) a)(assert q (m))", "(assert q a)"}, {"(define (m) (not a))(assert q (and m (m)))", "(assert q (and (not a) (not a)))"}, {"(define (m) #b1)(assert q m)", "(assert q #b1)"}, {"(define (m) \"\")(assert q (eq m (m)))", "(assert q (eq \"\" \"\"))"},
		{"(define (m (x (bv 1))) x)(assert q (m a))", "(assert q a)"}, {"(define (m (x (bv 1))) (or x (not x)))(assert q (m (and a b)))", "(assert q (or (and a b) (not (and a b))))"}, {"(define (m (x (bv 1)) (y (bv 1))) (ult y x))(assert q (m a b))", "(assert q (ult b a))"}, {"(define (m (x (bv 1)) (y (bv 1)) (z (bv 1))) (ite y z x))(assert q (m a b p))", "(assert q (ite b p a))"},
		// Parameters come before variables and macros.
		{"(define (m (a (bv 1))) (not a))(assert q (m b))", "(assert q (not b))"}, {"(define (m (a (bv 1)) (b (bv 1))) (ult a b))(assert q (m b a))", "(assert q (ult b a))"}, {"(define (n) p)(define (m (n (bv 1))) (not n))(assert q (m a))(assert q n)", "(assert q (not a))(assert q p)"}, {"(define (m (m (bv 1))) (not m))(assert q (m a))", "(assert q (not a))"}, {"(define (m (not (bv 1))) (not not))(assert q (m a))", "(assert q (not a))"},
		// Behind a parenthesis a name is that of an operation or a macro.
		{"(declare not (bv 1))(assert q (not not))", "(declare not (bv 1))(assert q (not not))"}, {"(define (n) p)(define (m (n (bv 1))) (and n (n)))(assert q (m a))", "(assert q (and a p))"}, {"(define (n (x (bv 1))) (neg x))(define (m (n (bv 1))) (n n))(assert q (m a))", "(assert q (neg a))"},
		// Terms are read outside of the body, and parameters of the macro around are not known in it.
		{"(define (m (x (bv 1))) (not x))(define (n (x (bv 1)) (y (bv 1))) (and x (m y)))(assert q (n a b))", "(assert q (and a (not b)))"}, {"(define (m (x (bv 1))) (not x))(define (n (x (bv 1))) (and (m b) x))(assert q (n a))", "(assert q (and (not b) a))"}, {"(define (m) a)(define (n (a (bv 1))) (ult m a))(assert q (n b))", "(assert q (ult a b))"}, {"(define (m (b (bv 1))) (ult a b))(define (n (a (bv 1))) (m a))(assert q (n p))", "(assert q (ult a p))"}, {"(define (m (x (bv 1)) (y (bv 1))) (ult x y))(define (n (x (bv 1)) (y (bv 1))) (m y x))(assert q (n (m a b) p))", "(assert q (ult p (ult a b)))"},
		{"(define (m (x (bv 1))) (not x))(assert q (m (m (m a))))", "(assert q (not (not (not a))))"}, {"(define (m (x (bv 1))) (not x))(define (n (x (bv 1))) (and (m x) (m (not x))))(assert q (n (m a)))", "(assert q (and (not (not a)) (not (not (not a)))))"},
		// Macros that were defined before, and variables that are declared where the body is read.
		{"(define (m) a)(define (n) (not m))(define (o) (not (n)))(assert q (and o n))", "(assert q (and (not (not a)) (not a)))"}, {"(define (m) c)(declare c (bv 1))(assert q m)", "(declare c (bv 1))(assert q c)"}, {"(define (m (x (bv 1))) (and c x))(declare c (bv 1))(assert q (m c))", "(declare c (bv 1))(assert q (and c c))"},
		{"(define (m) (zero (arr 1 1)))(define (n (i (bv 1))) (select m i))(assert q (n #b0))", "(assert q (select (zero (arr 1 1)) #b0))"}, {"(define (m (x (str 3))) (in \"'b'|'a'\" x))(assert q (m \"abc\"))", "(assert q (in \"'a'|'b'\" \"abc\"))"},
		{"(define(m)(not a))(push)(assert q m)(pop)(edit q(m))(check 5)(retract q)", "(push)(assert q (not a))(pop)(edit q (not a))(check 5)(retract q)"},
	} {
		if got, want := script(t, before+c[0]), script(t, before+c[1]); !meansSame(got, want) || len(got.Graph.Nodes) != len(want.Graph.Nodes) {
			t.Errorf("%s: %v, not %v", c[0], got, want)
		}
	}
	// Terms are read and added even if no parameter is named.
	if got := script(t, before+"(define (m (x (bv 1)) (y (bv 1))) y)(assert q (m (not a) (neg b)))"); !alike(got.Graph, graph(t, variable("a", bv(1)), variable("b", bv(1)), variable("p", bv(1)), op(api.Not, bv(1), 0), op(api.Neg, bv(1), 1))) || got.Commands[3] != asserted("q", 4) {
		t.Error(got)
	}
}

// P10.6
func TestSpaces(t *testing.T) {
	m := &maker{Rand: random(8)}
	met := tally{}
	for i := range 6000 {
		m.vars, m.macros = nil, nil
		tokens := tokensOf(m.commands(8))
		if i%2 == 0 {
			tokens = damaged(m.Rand, tokens)
		}
		narrow := written(tokens)
		wide, places := spaced(m.Rand, tokens)
		if len(wide) > api.MaxText {
			continue
		}
		x, at, e := parse.Parse(narrow)
		y, wideAt, f := parse.Parse(wide)
		if e != api.OK {
			at = places[placeOf(t, narrow, at)]
		}
		met[e]++
		if !equal(x, y) || e != f || at != wideAt {
			t.Fatalf("%q\n%q: %d, %d, not %d, %d", narrow, wide, wideAt, f, at, e)
		}
	}
	met.need(t, 10, api.OK, api.ErrMore, api.ErrForm, api.ErrName, api.ErrSort)
}

// placeOf returns which token of a text has a place.
func placeOf(t *testing.T, s string, at int) int {
	t.Helper()
	tokens, _, e := lexer.Tokens(s)
	i := slices.IndexFunc(tokens, func(x lexer.Token) bool { return x.At == at })
	if e != api.OK || i < 0 {
		t.Fatalf("%q has no token at %d", s, at)
	}
	return i
}

// P10.8
func TestJoined(t *testing.T) {
	m := &maker{Rand: random(9)}
	for range 600 {
		commands, x := made(t, m, 12)
		for i := range commands {
			y := script(t, textOf(commands[:i]))
			if !begins(x.Graph, y.Graph) || !slices.Equal(x.Commands[:len(y.Commands)], y.Commands) {
				t.Fatalf("%s: %v, not %v", textOf(commands[:i]), y, x)
			}
		}
	}
	// Also with an error further on: it is that of the whole text, at the place where it is.
	before := "(declare a (bv 8))(assert p (eq a a))"
	script(t, before)
	for s, e := range map[string]api.Errno{"(assert p ^a)": api.ErrSort, "(declare ^a (bv 1))": api.ErrTwice, "^5": api.ErrForm, "(^": api.ErrMore} {
		failing(t, before, e, s, strings.Repeat(" ", 100)+s)
	}
}
