package print_test

import (
	"math"
	"slices"
	"strings"
	"testing"

	"enthymeme/api"
	"enthymeme/parse"
	"enthymeme/print"
)

// P11.3: the lines of commands.
func TestScript(t *testing.T) {
	x := variable("x", bv(8))
	p := variable("p", bv(1))
	for _, c := range []struct {
		nodes    []N
		commands []C
		want     string
	}{
		{nil, nil, ""}, {[]N{x}, nil, ""}, {nil, []C{push}, "(push)\n"}, {nil, []C{pop}, "(pop)\n"}, {nil, []C{check(0)}, "(check 0)\n"}, {nil, []C{check(1)}, "(check 1)\n"}, {nil, []C{check(1 << 40)}, "(check 1099511627776)\n"}, {nil, []C{retract("p")}, "(retract p)\n"}, {nil, []C{retract("abcdefghijklmnop")}, "(retract abcdefghijklmnop)\n"},
		{[]N{x}, []C{declare("x", bv(8), 0)}, "(declare x (bv 8))\n"}, {[]N{num(1, 1)}, []C{assert("q", 0)}, "(assert q #b1)\n"}, {[]N{num(1, 1)}, []C{edit("q", 0)}, "(edit q #b1)\n"},
		{[]N{variable("s", str(0)), variable("f", arr(16, 1)), variable("g", ars(1, 64))}, []C{declare("g", ars(1, 64), 2), declare("f", arr(16, 1), 1), declare("s", str(0), 0)}, "(declare g (ars 1 64))\n(declare f (arr 16 1))\n(declare s (str 0))\n"},
		{[]N{num(0, 8), x, op(api.Add, 1, 1), op(api.Eq, 2, 0), p}, []C{declare("p", bv(1), 4), declare("x", bv(8), 1), assert("p", 3), push, edit("p", 4), check(700), pop, retract("x"), assert("not", 3)}, "(declare p (bv 1))\n(declare x (bv 8))\n(assert p (eq (add x x) #x00))\n(push)\n(edit p p)\n(check 700)\n(pop)\n(retract x)\n(assert not (eq (add x x) #x00))\n"},
		// Names need not be known, nor new, and what is popped need not be there.
		{[]N{num(1, 1)}, []C{pop, retract("a"), edit("a", 0), assert("a", 0), assert("a", 0), pop, push}, "(pop)\n(retract a)\n(edit a #b1)\n(assert a #b1)\n(assert a #b1)\n(pop)\n(push)\n"},
		// Only variables that occur have to be declared before.
		{[]N{x, p, op(api.Not, 1), variable("q", bv(1)), op(api.Or, 2, 3)}, []C{declare("p", bv(1), 1), assert("p", 2), declare("q", bv(1), 3), assert("p", 4)}, "(declare p (bv 1))\n(assert p (not p))\n(declare q (bv 1))\n(assert p (or (not p) q))\n"},
		{[]N{variable("s", str(64)), in(`\x00|'"'`, 0), text("\"\\"), op(api.Eq, 0, 2)}, []C{declare("s", str(64), 0), assert("a-1", 3), edit("a-1", 1)}, `(declare s (str 64))
(assert a-1 (eq s "\"\\"))
(edit a-1 (in "\\x00|'\"'" s))
`},
	} {
		printsScript(t, graph(t, c.nodes...), c.want, c.commands...)
	}
}

// offered is a graph whose nodes make errors of each kind.
func offered(t *testing.T) G {
	t.Helper()
	g := chain(t, 65, api.Not, 1, variable("x", bv(1)))
	g.Nodes = append(g.Nodes, variable("y", bv(8)), variable("z", bv(1)), num(1, 1), text("x"), N{Op: api.Eq, Kids: []int{66, 66}, Sort: bv(1)}, N{Op: api.And, Kids: []int{0, 67}, Sort: bv(1)}, N{Op: api.And, Kids: []int{65, 67}, Sort: bv(1)})
	g.Nodes[69].Sort = str(1)
	return graph(t, g.Nodes...)
}

// P11.3: one error, of each kind.
func TestScriptErrors(t *testing.T) {
	g := offered(t)
	x := declare("x", bv(1), 0)
	for e, all := range map[api.Errno][][]C{
		api.ErrArg: {
			{{Kind: -1}}, {{Kind: 7}}, {{Kind: math.MinInt}}, {{Kind: math.MaxInt}}, {{Kind: 7, Name: "x"}},
			{{Kind: parse.Push, Name: "x"}}, {{Kind: parse.Push, Sort: bv(1)}}, {{Kind: parse.Push, Node: 1}}, {{Kind: parse.Push, N: 1}}, {{Kind: parse.Pop, Name: "x"}}, {{Kind: parse.Pop, Sort: S{Index: 1}}}, {{Kind: parse.Pop, Node: -1}}, {{Kind: parse.Pop, N: -1}},
			{{Kind: parse.Check, Name: "x", N: 5}}, {{Kind: parse.Check, Sort: str(0), N: 5}}, {{Kind: parse.Check, Node: 1, N: 5}}, {{Kind: parse.Retract, Name: "x", Sort: bv(1)}}, {{Kind: parse.Retract, Name: "x", Node: 1}}, {{Kind: parse.Retract, Name: "x", N: 1}},
			{x, {Kind: parse.Assert, Name: "p", Node: 0, Sort: bv(1)}}, {x, {Kind: parse.Assert, Name: "p", Node: 0, N: 1}}, {x, {Kind: parse.Edit, Name: "p", Node: 0, Sort: bv(1)}}, {x, {Kind: parse.Edit, Name: "p", Node: 0, N: 1}}, {{Kind: parse.Declare, Name: "x", Sort: bv(1), Node: 0, N: 1}},
		},
		api.ErrName: {
			{{}}, {declare("", bv(1), 0)}, {declare("X", bv(1), 0)}, {assert("", 68)}, {edit("", 68)}, {retract("")}, {retract("A")}, {retract("1a")}, {retract("-a")}, {retract("a b")}, {retract("a_")}, {retract("abcdefghijklmnopq")}, {retract("a\x00")}, {retract("\u00e9")}, {assert("a(", 68)}, {edit("aB", 68)},
			// Variables that were not declared.
			{assert("p", 0)}, {edit("p", 0)}, {assert("p", 1)}, {assert("p", 64)}, {assert("x", 67)}, {x, assert("p", 67)}, {x, assert("p", 71)}, {declare("z", bv(1), 67), assert("p", 71)}, {x, assert("p", 1), edit("q", 71), declare("z", bv(1), 67)}, {x, assert("p", 70)}, {assert("p", 70), declare("y", bv(8), 66)}, {x, assert("z", 0), assert("p", 71)}, {retract("x"), assert("x", 0)}, {x, assert("p", 64), assert("p", 70)},
		},
		api.ErrNone: {{declare("x", bv(1), -1)}, {declare("x", bv(1), 73)}, {assert("p", -1)}, {assert("p", 73)}, {edit("p", math.MaxInt)}, {edit("p", math.MinInt)}, {x, edit("p", 100)}},
		api.ErrSort: {
			{declare("x", bv(8), 0)}, {declare("x", S{}, 0)}, {declare("x", str(1), 0)}, {declare("x", S{Kind: api.BV, N: 1, Index: 1}, 0)}, {declare("y", bv(8), 0)}, {declare("z", bv(1), 0)}, {declare("x", bv(1), 1)}, {declare("x", bv(1), 67)}, {declare("x", str(1), 69)}, {declare("x", bv(1), 68)}, {declare("q", bv(1), 68)},
			{declare("y", bv(8), 66), assert("p", 66)}, {declare("y", bv(8), 66), edit("p", 66)}, {assert("p", 69)}, {edit("p", 69)}, {x, declare("x", bv(8), 0)},
		},
		api.ErrTwice: {{x, x}, {x, push, declare("z", bv(1), 67), x}, {x, assert("p", 64), x}, {declare("z", bv(1), 67), x, assert("p", 71), declare("z", bv(1), 67)}},
		api.ErrRange: {{check(-1)}, {check(1<<40 + 1)}, {check(math.MaxInt)}, {check(math.MinInt)}, {push, check(1 << 40), check(1 << 41)}},
		api.ErrLimit: {{x, assert("p", 65)}, {x, edit("p", 65)}, {x, declare("z", bv(1), 67), assert("p", 72)}, {x, assert("p", 64), assert("p", 65)}},
	} {
		for _, commands := range all {
			scriptFails(t, g, e, commands...)
			// The first error of several commands, and none of those before or behind it alone.
			scriptFails(t, g, e, slices.Concat([]C{push, retract("x")}, commands, []C{pop})...)
			for _, behind := range []C{{Kind: 9}, {}, check(-1), declare("x", bv(1), -1), assert("p", 69), assert("p", 71)} {
				scriptFails(t, g, e, slices.Concat(commands, []C{behind})...)
			}
		}
	}
}

// P11.3: errors of graphs come before all others.
func TestScriptGraphs(t *testing.T) {
	for _, c := range []struct {
		nodes []N
		e     api.Errno
	}{
		{[]N{{Op: api.Not, Kids: []int{0}, Sort: bv(1)}}, api.ErrArg}, {[]N{variable("X", bv(1))}, api.ErrName}, {[]N{variable("x", bv(0))}, api.ErrSort}, {[]N{num(1, 1), num(2, 1)}, api.ErrRange}, {[]N{num(1, 1), num(1, 1)}, api.ErrTwice}, {slices.Repeat([]N{num(1, 1)}, 4097), api.ErrLimit},
	} {
		g := G{Nodes: c.nodes}
		for _, commands := range [][]C{nil, {push}, {{Kind: 8}}, {{}}, {check(-1)}, {assert("p", -1)}, {assert("p", 0)}, slices.Repeat([]C{push}, 20000)} {
			scriptFails(t, g, c.e, commands...)
		}
	}
}

// P11.3: all commands with some fields, behind others.
func TestCommands(t *testing.T) {
	g := offered(t)
	met := map[api.Errno]int{}
	for kind := -1; kind <= 7; kind++ {
		for _, name := range []string{"", "x", "y", "q", "Q"} {
			for _, s := range []S{{}, bv(1), bv(8), str(1)} {
				for _, node := range []int{-1, 0, 1, 65, 66, 67, 68, 69, 70, 71, 72, 73} {
					for _, n := range []int{-1, 0, 1, 1<<40 + 1} {
						c := C{Kind: kind, Name: name, Sort: s, Node: node, N: n}
						compareScript(t, parse.Script{Graph: g, Commands: []C{c}})
						_, e := compareScript(t, parse.Script{Graph: g, Commands: []C{declare("x", bv(1), 0), c, pop}})
						met[e]++
					}
				}
			}
		}
	}
	for _, e := range []api.Errno{api.OK, api.ErrArg, api.ErrName, api.ErrNone, api.ErrSort, api.ErrTwice, api.ErrRange, api.ErrLimit} {
		if met[e] == 0 {
			t.Errorf("the error %d does not occur", e)
		}
	}
}

// P11.3: the limit of the text.
func TestScriptLength(t *testing.T) {
	// 4 * 7 + 10918 * 6 bytes.
	commands := append(slices.Repeat([]C{push}, 4), slices.Repeat([]C{pop}, 10918)...)
	full := strings.Repeat("(push)\n", 4) + strings.Repeat("(pop)\n", 10918)
	if len(full) != 65536 {
		t.Fatal(len(full))
	}
	printsScript(t, G{}, full, commands...)
	scriptFails(t, G{}, api.ErrLimit, append([]C{push}, commands[:10921]...)...)
	scriptFails(t, G{}, api.ErrLimit, append(commands, push)...)
	scriptFails(t, G{}, api.ErrLimit, slices.Repeat([]C{check(1 << 40)}, 100000)...)
	// Errors of commands come before it, wherever they are.
	scriptFails(t, G{}, api.ErrRange, append(commands, push, check(-1))...)
	scriptFails(t, G{}, api.ErrArg, append(commands, push, C{Kind: 7}, check(-1))...)
	scriptFails(t, G{}, api.ErrName, append(commands, retract(""))...)
}

// P11.3: the limit of the text, with long terms.
func TestScriptTermLength(t *testing.T) {
	g := doubled(t, 1, 13)
	last := len(g.Nodes) - 1
	a, b := declare("a", bv(1), 0), declare("bbbbbbbb", bv(1), 1)
	// The text of the last node has 65536 bytes: there is no room for a line around it.
	printsTerm(t, g, last, written(g, last))
	scriptFails(t, g, api.ErrLimit, a, b, assert("p", last))
	scriptFails(t, g, api.ErrLimit, a, b, edit("p", last))
	scriptFails(t, g, api.ErrRange, a, b, assert("p", last), check(-1))
	scriptFails(t, g, api.ErrName, a, assert("p", last), b)
	scriptFails(t, g, api.ErrName, a, assert("p", last))
	// Two of half of its length are too long, too, unless one is shorter.
	scriptFails(t, g, api.ErrLimit, a, b, assert("p", last-2), edit("p", last-2))
	one := "(declare a (bv 1))\n(declare bbbbbbbb (bv 1))\n(assert p " + written(g, last-2) + ")\n"
	printsScript(t, g, one+"(edit p "+written(g, last-4)+")\n", a, b, assert("p", last-2), edit("p", last-4))
	// To the byte: the rest is made of pops and pushes.
	rest := 65536 - len(one)
	var fill []C
	for ; rest%6 != 0; rest -= 7 {
		fill = append(fill, push)
	}
	fill = append(fill, slices.Repeat([]C{pop}, rest/6)...)
	commands := append([]C{a, b, assert("p", last-2)}, fill...)
	if s, e := print.Script(parse.Script{Graph: g, Commands: commands}); e != api.OK || len(s) != 65536 || !strings.HasPrefix(s, one) {
		t.Errorf("%d bytes, %d", len(s), e)
	}
	scriptFails(t, g, api.ErrLimit, slices.Concat([]C{a, b, assert("pp", last-2)}, fill)...)
	scriptFails(t, g, api.ErrLimit, append(commands[:len(commands)-1:len(commands)-1], push)...)
	// Lengths beyond all ints.
	for _, o := range []struct{ op, kids int }{{api.And, 2}, {api.Ite, 3}} {
		g := chain(t, 66, o.op, o.kids, variable("a", bv(1)))
		for node := 14; node <= 66; node++ {
			scriptFails(t, g, api.ErrLimit, a, assert("p", node))
			scriptFails(t, g, api.ErrLimit, a, assert("p", node), edit("p", node), push)
		}
	}
}
