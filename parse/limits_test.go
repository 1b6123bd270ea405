package parse_test

import (
	"strconv"
	"strings"
	"testing"

	"enthymeme/api"
)

// nots is a term within n times not.
func nots(n int, s string) string {
	return strings.Repeat("(not ", n) + s + strings.Repeat(")", n)
}

// P10.2: the deepest terms.
func TestDeepest(t *testing.T) {
	before := "(declare p (bv 1))(define (m) (not p))(define (n) p)(define (c (x (bv 1))) x)(define (d (x (bv 1))) (not x))(define (e) " + nots(30, "p") + ")(define (f (x (bv 1))) " + nots(30, "x") + ")(define (g) (not (not p)))(define (h) g)(define (i) (h))"
	for _, s := range []string{
		nots(64, "p"), nots(64, "#b1"), nots(63, "(num 1 1)"), nots(62, "(eq p (not p))"), nots(63, `(eq "" "")`), "(and " + nots(63, "p") + " " + nots(63, "p") + ")",
		// Parentheses of sorts do not count.
		nots(62, "(eq (zero (arr 1 1)) (zero (arr 1 1)))"),
		// Those of bodies count within those of the term, but a name alone has none.
		nots(64, "n"), nots(63, "m"), nots(62, "(m)"), nots(63, "(n)"), nots(63, "(c p)"), nots(62, "(c (not p))"), nots(62, "(d p)"), nots(62, "(d (not p))"), nots(62, "(c (c p))"), nots(61, "(c (d p))"), nots(61, "(d (d p))"), nots(34, "e"), nots(33, "(e)"), nots(33, "(f p)"), nots(33, "(f "+nots(30, "p")+")"), nots(62, "g"), nots(62, "h"), nots(61, "(h)"), nots(61, "i"), nots(60, "(i)"),
		strings.Repeat("(c ", 64) + "p" + strings.Repeat(")", 64), strings.Repeat("(d ", 63) + "p" + strings.Repeat(")", 63), "(or (e) (and " + nots(62, "p") + " e))",
	} {
		script(t, before+"(assert q "+s+")")
		compare(t, before+"(assert q "+s+")(edit q "+s+")")
		if compare(t, before+"(assert q (not "+s+"))") != api.ErrLimit {
			t.Errorf("%s is not the deepest", s)
		}
	}
	// Within a body that is skipped there is no limit.
	script(t, "(define (m) "+strings.Repeat("(", 30000)+strings.Repeat(")", 30000)+")")
	failing(t, "", api.ErrMore, "(define (m) "+strings.Repeat("(", 30000)+strings.Repeat(")", 29999)+"^")
}

// P10.2: deeper terms.
func TestDeeper(t *testing.T) {
	const before = "(declare p (bv 1))"
	deep := "(assert q " + strings.Repeat("(not ", 64)
	failing(t, before, api.ErrLimit, deep+"^(not p", deep+"^(", deep+"^()", deep+"^(5", deep+"^(foo", deep+"^(num 1 1)", "(push)(pop)"+deep+"^(not p",
		"(assert q "+strings.Repeat("(not ", 62)+"(eq (zero (arr 1 1)) (eq ^(zero (arr 1 1))", "(assert q (and "+nots(63, "p")+" "+strings.Repeat("(not ", 63)+"^(not p",
		"(define (m) p)"+deep+"^(m)", "(define (c (x (bv 1))) x)(assert q "+strings.Repeat("(c ", 64)+"^(c p")
	// In bodies.
	failing(t, before, api.ErrLimit, "(define (m) ^(not p))(assert q "+nots(64, "m")+")", "(define (m) ^(not p))(assert q "+nots(63, "(m)")+")", "(define (m) ^(not p))(assert q "+nots(63, "(m)"), "(define (m) (not ^(not p)))(assert q "+nots(63, "m")+")", "(define (m) ^(foo))(assert q "+nots(64, "m")+")", "(define (m) ^())(assert q "+nots(63, "(m)")+")",
		"(define (m) "+strings.Repeat("(not ", 64)+"^(not p"+strings.Repeat(")", 65)+")(assert q m)", "(define (m) "+strings.Repeat("(not ", 63)+"^(not p"+strings.Repeat(")", 64)+")(assert q (m))",
		"(define (d (x (bv 1))) ^(not x))(assert q "+strings.Repeat("(d ", 64)+"p"+strings.Repeat(")", 64)+")", "(define (d (x (bv 1))) ^(not x))(assert q "+nots(63, "(d p)")+")",
		"(define (m) ^(not p))(define (n) (m))(assert q "+nots(63, "n")+")", "(define (m) ^(not p))(define (n) (m))(define (o) n)(assert q "+nots(62, "(o)")+")")
}

// doubled are macros: m0 with a body, and each other one has that before it twice.
func doubled(body string, most int) string {
	s := "(define (m0) " + body + ")"
	for i := range most {
		before, this := strconv.Itoa(i), strconv.Itoa(i+1)
		s += "(define (m" + this + ") (and m" + before + " m" + before + "))"
	}
	return s
}

// P10.2: the greatest number of terms, and more.
func TestTerms(t *testing.T) {
	// The name m0 and its body are 2 terms; the name m1, its body and those are 6; then 14, and so on: 32766 for m13, and 65534 for m14.
	before := "(declare p (bv 1))(declare a (bv 8))(define (c (x (bv 1))) x)" + doubled("p", 14)
	two := before + "(assert q m14)"
	one, none := two+"(assert q p)", two+"(assert q p)(assert q p)"
	if got := len(script(t, none).Graph.Nodes); got != 2+14 {
		t.Errorf("%d nodes", got)
	}
	script(t, two+"(assert q (not p))")
	script(t, two+"(edit q m0)")
	script(t, one+"(assert q (num 1 1))")
	script(t, one+"(edit q #b1)")
	// All that are no terms.
	script(t, none+"(push)(pop)(retract q)(check 5)(declare d (arr 1 1))(define (e (x (arr 1 1))) (and x x))(define (f) p)")
	failing(t, none, api.ErrLimit, "(assert q ^p)", "(assert q ^p", "(edit q ^#b1)", "(assert q ^\"\")", "(assert q ^\""+strings.Repeat("a", 65)+"\")", "(assert q ^(not p))", "(assert q ^(", "(assert q ^()", "(assert q ^(5", "(assert q ^a)", "(assert q ^foo)", "(assert q ^c)", "(assert q ^m0)", "(assert q ^(m0))", "(push)(define (d) p)(assert q ^d)")
	failing(t, none, api.ErrForm, "(assert q ^)", "(assert q ^5)", "(edit ^5", "^foo")
	failing(t, none, api.ErrMore, "(assert q ^", "(assert q^")
	failing(t, one, api.ErrLimit, "(assert q (not ^p))", "(assert q (not ^(not p)))", "(assert q (not ^#b1))", "(assert q (c ^p))", "(assert q (and ^p p))", "(assert q (in \"'a'\" ^\"\"))", "(assert q (extract 0 0 ^foo))", "(assert q (num 1 1))(assert q ^(num 1 1))",
		"(define (d) ^p)(assert q d)", "(define (d) ^p)(assert q (d))", "(define (d) ^(not p))(assert q d)", "(define (d) ^(foo))(assert q (d))", "(define (d) ^foo)(assert q d)")
	failing(t, one, api.ErrForm, "(assert q (not ^))", "(assert q (not ^5))", "(define (d) ^5)(assert q d)", "(assert q (num 1 ^p))", "(assert q (in ^\"\" p))")
	failing(t, one, api.ErrSort, "(assert q ^a)", "(assert q ^(zero (bv 1)))", "(assert q (zero ^(arr 0 1)))")
	failing(t, one, api.ErrName, "(assert q ^d)", "(assert q (^d))")
	// The term that names a macro, its terms, and its body.
	most := before + "(assert q m13)(assert q m13)(assert q (c p))(assert q p)"
	script(t, most)
	failing(t, most, api.ErrLimit, "(assert q ^p)")
	failing(t, before, api.ErrLimit, "(define (d (x (bv 1))) ^x)(assert q m13)(edit q m13)(assert q p)(assert q p)(assert q (d p))", "(define (d (x (bv 1))) x)(assert q m13)(edit q m13)(assert q p)(assert q p)(assert q p)(assert q (d ^p))")
}

// most is a script of 4095 nodes; there is room for one more.
func most() string {
	s := "(declare x (bv 16))"
	for i := range 2047 {
		s += "(assert q (eq x " + digits(uint64(i), 16) + "))"
	}
	return s
}

// P10.2: the greatest number of nodes, and more.
func TestNodes(t *testing.T) {
	g := script(t, most()).Graph
	if len(g.Nodes) != 4095 {
		t.Fatal(len(g.Nodes))
	}
	failing(t, most(), api.ErrLimit, "(declare y (bv 1))(assert q (eq x #x0000))(^declare z (bv 1))", "(assert q ^(eq x (neg x)))", "(declare y (bv 1))(define (m) ^(add x x))(assert q (eq x m))")
	failing(t, most()+"(declare y (bv 1))", api.ErrMore, "(declare z (bv 1)^")
	full, node := termOver(t, g, "#b1")
	if node != 4095 {
		t.Error(node)
	}
	for _, s := range []string{"^#b0", `^""`, "^(num 0 1)", "^(zero (arr 1 1))", "^(not #b1)", "(not ^(not #b1))", "(and #b1 ^#b0)", "^(eq #x0000 x)", "(add (neg ^#xffff) foo)", "^(not #b1)"} {
		marked, at := unmarked(t, s)
		termFails(t, full, marked, at, api.ErrLimit)
		compareTerm(t, full, marked)
	}
	termFails(t, full, "(not #b1", 8, api.ErrMore)
	termFails(t, full, "(and #b1 x)", 0, api.ErrSort)
	termFails(t, full, "(num 2 1)", 0, api.ErrRange)
	if h, node := termOver(t, full, "(eq x #x07fe)"); node != 4094 || !alike(h, full) {
		t.Error(node)
	}
}

// P10.1, P10.3: the longest texts.
func TestLongest(t *testing.T) {
	long := "(push)" + strings.Repeat(" ", 65536-6)
	if got := script(t, long); len(got.Commands) != 1 {
		t.Error(got)
	}
	failing(t, long, api.ErrLimit, "^ ", "^(", "^)", "^A")
	many := strings.Repeat("(pop)", 13107)
	if got := script(t, many); len(got.Commands) != 13107 || got.Commands[13106] != (C{Kind: Pop}) {
		t.Error(len(got.Commands))
	}
	g := graph(t, variable("a", bv(8)))
	if h, node := termOver(t, g, strings.Repeat(" ", 65535)+"a"); node != 0 || !alike(h, g) {
		t.Error(node)
	}
	termFails(t, g, strings.Repeat(" ", 65536)+"a", 65536, api.ErrLimit)
}

// P10.1: as many macros and parameters as fit in a text.
func TestManyMacros(t *testing.T) {
	s := "(declare p (bv 1))(define (a0) (not p))"
	last := "a0"
	for i := 1; len(s) < 65000; i++ {
		name := "a" + strconv.Itoa(i)
		s += "(define (" + name + ")" + last + ")"
		last = name
	}
	if got := script(t, s+"(assert q "+last+")(edit r("+last+"))"); !alike(got.Graph, G{Nodes: []N{variable("p", bv(1)), op(api.Not, bv(1), 0)}}) || got.Commands[1] != asserted("q", 1) || got.Commands[2] != edited("r", 1) {
		t.Error(got)
	}
	params, terms := "", ""
	for i := range 3500 {
		params += "(a" + strconv.Itoa(i) + "(bv 1))"
		terms += " " + [...]string{"p", "r"}[i%2]
	}
	before := "(declare p (bv 1))(declare r (bv 1))(define (m" + params + ")"
	if got := script(t, before+"(and a3498 a3499))(assert q (m"+terms+"))"); !alike(got.Graph, G{Nodes: []N{variable("p", bv(1)), variable("r", bv(1)), op(api.And, bv(1), 0, 1)}}) {
		t.Error(got)
	}
	failing(t, before, api.ErrName, "^a3500)(assert q (m"+terms+"))")
	failing(t, before, api.ErrForm, "a0)(assert q (m"+terms[2:]+"^))", "a0)(assert q (m"+terms+" ^p))")
}
