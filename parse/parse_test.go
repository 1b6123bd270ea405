package parse_test

import (
	"slices"
	"strings"
	"testing"

	"enthymeme/api"
	"enthymeme/parse"
	"enthymeme/term"
)

// The kinds have the numbers of the chapter.
func TestKinds(t *testing.T) {
	got := []int{parse.Declare, parse.Assert, parse.Edit, parse.Retract, parse.Push, parse.Pop, parse.Check}
	if !slices.Equal(got, []int{Declare, Assert, Edit, Retract, Push, Pop, Check}) || !slices.Equal(got, []int{0, 1, 2, 3, 4, 5, 6}) {
		t.Error(got)
	}
}

// P10.1: commands and nodes.
func TestParse(t *testing.T) {
	a := variable("a", bv(8))
	p := variable("p", bv(1))
	for i, c := range []struct {
		s        string
		nodes    []N
		commands []C
	}{
		{"", nil, nil}, {" ; (a\n\t", nil, nil},
		// The example of the chapter.
		{"(declare a (bv 8))(define (m (x (bv 8))) (add x x))(assert p (eq (m a) #x00))", []N{a, op(api.Add, bv(8), 0, 0), num(0, 8), op(api.Eq, bv(1), 1, 2)}, []C{declared("a", bv(8), 0), asserted("p", 3)}},
		// Each command alone.
		{"(declare a (bv 8))", []N{a}, []C{declared("a", bv(8), 0)}}, {"(define (m) x)", nil, nil}, {"(assert p #b1)", []N{num(1, 1)}, []C{asserted("p", 0)}}, {"(edit p #b0)", []N{num(0, 1)}, []C{edited("p", 0)}},
		{"(retract p)", nil, []C{retracted("p")}}, {"(push)", nil, []C{{Kind: Push}}}, {"(pop)", nil, []C{{Kind: Pop}}}, {"(check 0)", nil, []C{checked(0)}}, {"(check 1)", nil, []C{checked(1)}}, {"(check 1099511627776)", nil, []C{checked(1099511627776)}},
		// Several of them, which nobody examines: what is retracted or popped need not be there.
		{"(pop)(pop)(retract a)(push)(check 7)(push)(retract a)", nil, []C{{Kind: Pop}, {Kind: Pop}, retracted("a"), {Kind: Push}, checked(7), {Kind: Push}, retracted("a")}},
		{"(assert p #b1)(assert p #b1)(edit q #b1)(assert q #b0)", []N{num(1, 1), num(0, 1)}, []C{asserted("p", 0), asserted("p", 0), edited("q", 0), asserted("q", 1)}},
		// All sorts, with their bounds.
		{"(declare a (bv 1))(declare b (bv 64))", []N{variable("a", bv(1)), variable("b", bv(64))}, []C{declared("a", bv(1), 0), declared("b", bv(64), 1)}},
		{"(declare a (str 0))(declare b (str 64))", []N{variable("a", str(0)), variable("b", str(64))}, []C{declared("a", str(0), 0), declared("b", str(64), 1)}},
		{"(declare a (arr 1 64))(declare b (arr 16 1))", []N{variable("a", S{Kind: api.Arr, Index: 1, N: 64}), variable("b", S{Kind: api.Arr, Index: 16, N: 1})}, []C{declared("a", arr(1, 64), 0), declared("b", arr(16, 1), 1)}},
		{"(declare a (ars 1 64))(declare b (ars 16 0))", []N{variable("a", S{Kind: api.Ars, Index: 1, N: 64}), variable("b", S{Kind: api.Ars, Index: 16, N: 0})}, []C{declared("a", ars(1, 64), 0), declared("b", ars(16, 0), 1)}},
		// Variables are added when they are read.
		{"(declare p (bv 1))(assert q (not p))(declare a (bv 8))(assert r (eq a a))", []N{p, op(api.Not, bv(1), 0), a, op(api.Eq, bv(1), 2, 2)}, []C{declared("p", bv(1), 0), asserted("q", 1), declared("a", bv(8), 2), asserted("r", 3)}},
		// Kids first, in order, and equal nodes once.
		{"(declare a (bv 8))(assert p (ult (mul #x02 a) (add a #x02)))(edit p (not (ult (mul #x02 a) a)))", []N{a, num(2, 8), op(api.Mul, bv(8), 1, 0), op(api.Add, bv(8), 0, 1), op(api.Ult, bv(1), 2, 3), op(api.Ult, bv(1), 2, 0), op(api.Not, bv(1), 5)}, []C{declared("a", bv(8), 0), asserted("p", 4), edited("p", 6)}},
		{"(assert p (eq (num 5 8) #x05))", []N{num(5, 8), op(api.Eq, bv(1), 0, 0)}, []C{asserted("p", 1)}}, {"(assert p #b1)(assert q (num 1 1))", []N{num(1, 1)}, []C{asserted("p", 0), asserted("q", 0)}},
		// A variable alone is an assertion, and names of assertions may be those of variables, macros and operations.
		{"(declare p (bv 1))(assert p p)(edit not p)(retract declare)", []N{p}, []C{declared("p", bv(1), 0), asserted("p", 0), edited("not", 0), retracted("declare")}}, {"(define (m) #b1)(assert m m)", []N{num(1, 1)}, []C{asserted("m", 0)}},
		// Spaces and comments.
		{" ( declare ; a\n a\t(bv\r8 ) ) ;", []N{a}, []C{declared("a", bv(8), 0)}}, {"(assert p(eq\"a\"\"a\"));\n;", []N{text("a"), op(api.Eq, bv(1), 0, 0)}, []C{asserted("p", 1)}},
	} {
		if got := script(t, c.s); !equal(got, parse.Script{Graph: G{Nodes: c.nodes}, Commands: c.commands}) {
			t.Errorf("%d: %q: %v", i, c.s, got)
		}
	}
}

// P10.1: words of the language are names where names stand.
func TestNames(t *testing.T) {
	all := append([]string{"bv", "str", "arr", "ars", "declare", "define", "assert", "edit", "retract", "push", "pop", "check", "end", "a", "a-", "z9-0", "abcdefghijklmnop", "a---------------"}, words...)
	for _, name := range all {
		if name == "" {
			continue
		}
		_, isOperation := forms[name]
		p := variable(name, bv(1))
		want := parse.Script{Graph: G{Nodes: []N{p, op(api.Not, bv(1), 0)}}, Commands: []C{declared(name, bv(1), 0), asserted(name, 1), edited(name, 0), retracted(name)}}
		if got := script(t, "(declare "+name+" (bv 1))(assert "+name+" (not "+name+"))(edit "+name+" "+name+")(retract "+name+")"); !equal(got, want) {
			t.Errorf("%s: %v", name, got)
		}
		// Parameters can have all names, too.
		got := script(t, "(declare q (bv 1))(define (m ("+name+" (bv 1))) (or "+name+" (not "+name+")))(assert r (m q))")
		if want := []N{variable("q", bv(1)), op(api.Not, bv(1), 0), op(api.Or, bv(1), 0, 1)}; !alike(got.Graph, G{Nodes: want}) || !slices.Equal(got.Commands[1:], []C{asserted("r", 2)}) {
			t.Errorf("%s: %v", name, got)
		}
		if isOperation {
			failing(t, "", api.ErrName, "(define (^"+name+") #b1)", "(define (^"+name+" (x (bv 1))) x)")
			continue
		}
		for _, use := range []string{name, "(" + name + ")"} {
			if got := script(t, "(define ("+name+") #b1)(assert r (not "+use+"))"); !alike(got.Graph, G{Nodes: []N{num(1, 1), op(api.Not, bv(1), 0)}}) {
				t.Errorf("%s: %v", use, got)
			}
		}
		if got := script(t, "(define ("+name+" (x (bv 1))) (neg x))(assert r ("+name+" #b1))"); !alike(got.Graph, G{Nodes: []N{num(1, 1), op(api.Neg, bv(1), 0)}}) {
			t.Errorf("%s: %v", name, got)
		}
	}
}

// over is a graph of variables for terms.
func over(t *testing.T) G {
	t.Helper()
	return graph(t, variable("a", bv(8)), variable("b", bv(8)), variable("p", bv(1)), variable("k", bv(7)), variable("i", bv(4)), variable("s", str(9)), variable("u", str(5)), variable("f", arr(4, 8)), variable("g", ars(4, 5)), variable("w", bv(64)))
}

// The numbers of the nodes of over, and of the next one.
const (
	a = iota
	b
	p
	k
	i4
	s9
	u5
	f
	g5
	w
	next
)

// sized is an operation with numbers.
func sized(o, n, m int, s S, kids ...int) N { return N{Op: o, N: n, M: m, Sort: s, Kids: kids} }

// in asks for a regular expression.
func in(expression string, kid int) N {
	return N{Op: api.In, Text: expression, Sort: bv(1), Kids: []int{kid}}
}

// P10.1, P10.3: each operation, over variables.
func TestOperations(t *testing.T) {
	for _, c := range []struct {
		s    string
		want N
	}{
		{"(not a)", op(api.Not, bv(8), a)}, {"(neg a)", op(api.Neg, bv(8), a)}, {"(and a b)", op(api.And, bv(8), a, b)}, {"(or a b)", op(api.Or, bv(8), a, b)}, {"(xor a b)", op(api.Xor, bv(8), a, b)}, {"(add b a)", op(api.Add, bv(8), b, a)}, {"(mul a a)", op(api.Mul, bv(8), a, a)},
		{"(udiv a b)", op(api.Udiv, bv(8), a, b)}, {"(urem a b)", op(api.Urem, bv(8), a, b)}, {"(shl a b)", op(api.Shl, bv(8), a, b)}, {"(lshr a b)", op(api.Lshr, bv(8), a, b)}, {"(ashr a b)", op(api.Ashr, bv(8), a, b)}, {"(ult a b)", op(api.Ult, bv(1), a, b)}, {"(slt b a)", op(api.Slt, bv(1), b, a)},
		{"(eq a b)", op(api.Eq, bv(1), a, b)}, {"(eq s u)", op(api.Eq, bv(1), s9, u5)}, {"(eq f f)", op(api.Eq, bv(1), f, f)}, {"(ite p a b)", op(api.Ite, bv(8), p, a, b)}, {"(ite p u s)", op(api.Ite, str(9), p, u5, s9)}, {"(ite p g g)", op(api.Ite, ars(4, 5), p, g5, g5)},
		{"(concat a k)", op(api.Concat, bv(15), a, k)}, {"(extract 6 2 a)", sized(api.Extract, 6, 2, bv(5), a)}, {"(extract 0 0 p)", sized(api.Extract, 0, 0, bv(1), p)}, {"(extract 63 63 w)", sized(api.Extract, 63, 63, bv(1), w)}, {"(zext 56 a)", sized(api.Zext, 56, 0, bv(64), a)}, {"(sext 1 a)", sized(api.Sext, 1, 0, bv(9), a)},
		{"(select f i)", op(api.Select, bv(8), f, i4)}, {"(select g i)", op(api.Select, str(5), g5, i4)}, {"(store f i b)", op(api.Store, arr(4, 8), f, i4, b)}, {"(store g i u)", op(api.Store, ars(4, 5), g5, i4, u5)}, {"(diff f f)", op(api.Diff, bv(4), f, f)},
		{"(len s)", op(api.Len, bv(7), s9)}, {"(byte 0 s)", sized(api.Byte, 0, 0, bv(8), s9)}, {"(byte 63 u)", sized(api.Byte, 63, 0, bv(8), u5)}, {"(cat s u)", op(api.Cat, str(14), s9, u5)}, {"(sub s k k)", op(api.Sub, str(9), s9, k, k)}, {"(find s u)", op(api.Find, bv(7), s9, u5)}, {"(replace s u u)", op(api.Replace, str(14), s9, u5, u5)}, {"(char a)", op(api.Char, str(1), a)},
		{`(in "'a'" s)`, in("'a'", s9)}, {"(zero (arr 4 8))", N{Op: api.Zero, Sort: arr(4, 8)}}, {"(zero (ars 16 0))", N{Op: api.Zero, Sort: ars(16, 0)}},
		{"(num 0 1)", num(0, 1)}, {"(num 1 1)", num(1, 1)}, {"(num 5 3)", num(5, 3)}, {"(num 255 8)", num(255, 8)}, {"(num 0 64)", num(0, 64)}, {"(num 9999999999999 64)", num(9999999999999, 64)}, {"(num 1099511627775 40)", num(1099511627775, 40)}, {"(num 10 33)", num(10, 33)},
		{"#b0", num(0, 1)}, {"#b1", num(1, 1)}, {"#b00", num(0, 2)}, {"#b0110", num(6, 4)}, {"#b" + strings.Repeat("1", 64), num(1<<64-1, 64)}, {"#b1" + strings.Repeat("0", 63), num(1<<63, 64)}, {"#x0", num(0, 4)}, {"#xf", num(15, 4)}, {"#x0a", num(10, 8)}, {"#xb0", num(176, 8)}, {"#xffffffffffffffff", num(1<<64-1, 64)}, {"#x0123456789abcdef", num(0x0123456789abcdef, 64)}, {"#x10", num(16, 8)}, {"#b10", num(2, 2)}, {"#xbb", num(187, 8)},
		{`""`, text("")}, {`"a"`, text("a")}, {`"\x00\xff\"\\;("`, text("\x00\xff\"\\;(")}, {`"` + strings.Repeat("ab", 32) + `"`, text(strings.Repeat("ab", 32))}, {`"` + strings.Repeat(`\x00`, 64) + `"`, text(strings.Repeat("\x00", 64))},
	} {
		g := over(t)
		h, node := termOver(t, g, c.s)
		if !alike(h, graph(t, append(slices.Clone(g.Nodes), c.want)...)) || node != next {
			t.Errorf("%s: %v, %d", c.s, h, node)
		}
		compareTerm(t, g, c.s)
	}
}

// P10.1: regular expressions are brought into normal form.
func TestExpressions(t *testing.T) {
	most := strings.Repeat(" ", 4092) + "none"
	for _, c := range [][2]string{
		{"none", "none"}, {"empty", "empty"}, {"'a'", "'a'"}, {" 'a' ", "'a'"}, {"(('a'))", "'a'"}, {`\\x61`, "'a'"}, {`\\x0a`, `\x0a`}, {`\\x22`, `'"'`}, {`'\"'`, `'"'`}, {"['a'-'a']", "'a'"}, {"['a'-'z']", "['a'-'z']"}, {"'b'|'a'", "'a'|'b'"}, {"'b'|'a'|'b'", "'a'|'b'"}, {"'b'&'a'", "'a'&'b'"}, {"empty'a'empty", "'a'"}, {"'a'none", "none"}, {"'a'**", "'a'*"}, {"!!'a'", "'a'"}, {"all()", "!none"}, {"alt()", "none"}, {"cat()", "empty"}, {"cat('a','b')", "'a''b'"}, {"'a'('b''c')", "'a''b''c'"}, {"'a'|!none", "!none"}, {most, "none"},
		{"none" + strings.Repeat("'a'", 62), "none"}, {strings.Repeat("'a'", 63), strings.Repeat("'a'", 63)},
	} {
		g := over(t)
		h, node := termOver(t, g, `(in "`+c[0]+`" s)`)
		if !alike(h, graph(t, append(slices.Clone(g.Nodes), in(c[1], s9))...)) || node != next {
			t.Errorf("%.100s: %v, %d", c[0], h.Nodes[next:], node)
		}
	}
	// Different texts of one expression lead to one node, also when one of them is read again.
	got := script(t, `(declare s (str 5))(define (m) (in "'b'|'a'" s))(assert p (and m m))(assert q (in "('a'|'b')" s))(assert r (in "'a'" s))(assert q m)`)
	if want := []N{variable("s", str(5)), in("'a'|'b'", 0), op(api.And, bv(1), 1, 1), in("'a'", 0)}; !alike(got.Graph, G{Nodes: want}) || !slices.Equal(got.Commands, []C{declared("s", str(5), 0), asserted("p", 2), asserted("q", 1), asserted("r", 3), asserted("q", 1)}) {
		t.Error(got)
	}
}

// P10.3
func TestTerm(t *testing.T) {
	g := over(t)
	for _, c := range []struct {
		s     string
		node  int
		nodes []N
	}{
		{"a", a, nil}, {"w", w, nil}, {" b ; c\n", b, nil}, {"\n(eq(not a)(add b(not a)))", next + 2, []N{op(api.Not, bv(8), a), op(api.Add, bv(8), b, next), op(api.Eq, bv(1), next, next+1)}},
		{"(ult (num 9 8) (udiv a #x09))", next + 2, []N{num(9, 8), op(api.Udiv, bv(8), a, next), op(api.Ult, bv(1), next, next+1)}}, {"(ite (eq u \"a\") s u)", next + 2, []N{text("a"), op(api.Eq, bv(1), u5, next), op(api.Ite, str(9), next+1, s9, u5)}},
		{"(select (store (zero (arr 4 8)) i a) #x3)", next + 3, []N{{Op: api.Zero, Sort: arr(4, 8)}, op(api.Store, arr(4, 8), next, i4, a), num(3, 4), op(api.Select, bv(8), next+1, next+2)}},
	} {
		h, node := termOver(t, g, c.s)
		if node != c.node || !alike(h, graph(t, append(slices.Clone(g.Nodes), c.nodes...)...)) {
			t.Errorf("%s: %v, %d", c.s, h, node)
		}
		if again, node := termOver(t, h, c.s); node != c.node || !alike(again, h) {
			t.Errorf("%s again: %v, %d", c.s, again, node)
		}
	}
	if h, node := termOver(t, G{}, "(not #b1)"); node != 1 || !alike(h, G{Nodes: []N{num(1, 1), op(api.Not, bv(1), 0)}}) {
		t.Error(h, node)
	}
	// Variables count wherever they are in the graph, and have any names.
	h := graph(t, num(1, 1), variable("not", bv(1)), op(api.Not, bv(1), 0), variable("declare", bv(1)))
	if got, node := termOver(t, h, "(not not)"); node != 4 || !alike(got, graph(t, append(slices.Clone(h.Nodes), op(api.Not, bv(1), 1))...)) {
		t.Error(got, node)
	}
	if got, node := termOver(t, h, "declare"); node != 3 || !alike(got, h) {
		t.Error(got, node)
	}
}

// P10.3: errors of Term, and their offsets.
func TestTermErrors(t *testing.T) {
	g := over(t)
	for e, l := range map[api.Errno][]string{
		api.ErrMore:  {"^", " ^", ";^", "(^", "(not^", "(not a^", "(zext 1^", "(in^", `(in "'a'"^`, "(zero (arr 1^", "(num 1 ^", `^`, `"^`, `(in "^`},
		api.ErrForm:  {"^)", "^0", "(^(", "(^)", "(^0", "(^#b1", "(not ^)", "(not a ^b)", "(and a ^)", "a ^a", "a ^)", "a ^(", "(not a)^)", "(not a) ^0", "#b1 ^\"\"", "(not ^0)", "^A", "a ^A", `(in "^\n`, "(extract ^a 0 a)", "(extract 0 ^a)", `(in ^a s)`, `(in ^"a" s)`, "(zero ^a)", "(zero (^not 1))", "(num ^#b1 1)", "(num 1 ^))", "(num 1 1 ^1)", "(byte ^s)"},
		api.ErrName:  {"^c", "(^c)", "(^a)", "(^a a)", "(^declare c (bv 1))", "(^define)", "(^bv 8)", "(^var)", "(^text)", "(not ^c)", "(and a ^c)", "(and ^c c)", "(eq a (^m b))", "^abcdefghijklmnopq"},
		api.ErrSort:  {"^(not s)", "^(and a p)", "^(len a)", "(not ^(and a p))", "^(num 0 0)", "^(num 0 65)", "^(zero (bv 8))", "^(zero (str 0))", "(zero ^(arr 0 1))", "(zero ^(bv 0))", "(zero ^(str 65))", "^(select f a)", "^(store f i s)", `^(in "'a'" a)`, "^(char k)", "^(ite a a a)"},
		api.ErrRange: {"^(num 2 1)", "^(num 256 8)", "^(num 9999999999999 43)", "^(extract 8 0 a)", "^(extract 0 1 a)", "^(zext 0 a)", "^(sext 57 a)", "^(byte 64 s)", "^(concat w p)", "^(cat \"" + strings.Repeat("a", 60) + "\" u)", "^\"" + strings.Repeat("a", 65) + "\"", "(eq s ^\"" + strings.Repeat(" ", 65) + "\")", "^(replace \"" + strings.Repeat("a", 60) + "\" u u)"},
		api.ErrLimit: {"(in ^\"" + strings.Repeat(" ", 4093) + "none\" s)", "^#b" + strings.Repeat("0", 65), "^10000000000000", strings.Repeat(" ", 65536) + "^ ", strings.Repeat("(not ", 64) + "^(not a"},
	} {
		for _, marked := range l {
			s, at := unmarked(t, marked)
			termFails(t, g, s, at, e)
			compareTerm(t, g, s)
		}
	}
}

// P10.3: a graph is neither changed nor kept.
func TestGraphStays(t *testing.T) {
	g := over(t)
	memory := append(slices.Clone(g.Nodes), num(77, 7), num(78, 7), num(79, 7))
	roomy := G{Nodes: memory[:len(g.Nodes)]}
	before := slices.Clone(memory)
	first, node := termOver(t, roomy, "(eq (add a b) (neg a))")
	second, _ := termOver(t, roomy, "(eq (mul a b) (not a))")
	if !slices.EqualFunc(memory, before, same) || !alike(first, graph(t, append(slices.Clone(g.Nodes), op(api.Add, bv(8), a, b), op(api.Neg, bv(8), a), op(api.Eq, bv(1), next, next+1))...)) || node != next+2 || second.Nodes[next].Op != api.Mul {
		t.Error(memory, first, second)
	}
	termFails(t, roomy, "(not (add a b", 13, api.ErrMore)
	if !slices.EqualFunc(memory, before, same) {
		t.Error(memory)
	}
}

// Results of two calls share no memory.
func TestSeparate(t *testing.T) {
	const s = "(declare a (bv 8))(define (m (x (bv 8))) (add x x))(assert p (eq (m a) #x00))(push)"
	first, second := script(t, s), script(t, s)
	for i, n := range second.Graph.Nodes {
		for j := range n.Kids {
			n.Kids[j] = 99
		}
		second.Graph.Nodes[i] = N{Op: 99}
	}
	for i := range second.Commands {
		second.Commands[i] = C{Kind: 99}
	}
	if third := script(t, s); !equal(first, third) || term.Valid(first.Graph) != api.OK {
		t.Error(first, third)
	}
}
