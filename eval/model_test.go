package eval_test

import (
	"math/rand/v2"
	"slices"
	"strings"
	"testing"

	"enthymeme/api"
	"enthymeme/eval"
	"enthymeme/term"
	"enthymeme/value"
)

// P8.1: names, their order, values, and of several errors the first one.
func TestValid(t *testing.T) {
	x, wide, badSort := num(1, 8), num(256, 8), num(1, 65)
	sixteen := "a" + strings.Repeat("-", 15)
	for i, k := range []struct {
		m M
		e api.Errno
	}{
		{M{}, api.OK}, {M{Names: []string{}, Values: []V{}}, api.OK}, {model("x", x), api.OK}, {model(sixteen, x), api.OK}, {model("a", x, "a-", txt("", 0), "a0", of(arr(8, 2), bit(1, 2)), "aa", of(ars(1, 2)), "b", num(0, 1), "z9-", x), api.OK},
		{M{Names: []string{"x"}}, api.ErrArg}, {M{Values: []V{x}}, api.ErrArg}, {M{Names: []string{"x", "y"}, Values: []V{x}}, api.ErrArg}, {M{Names: []string{"X"}, Values: []V{badSort, x}}, api.ErrArg}, {M{Names: []string{"b", "a"}, Values: []V{x, x, x}}, api.ErrArg},
		{model("", x), api.ErrName}, {model("X", x), api.ErrName}, {model("0", x), api.ErrName}, {model("-a", x), api.ErrName}, {model("a_", x), api.ErrName}, {model("aB", x), api.ErrName}, {model("a ", x), api.ErrName}, {model("a\x00", x), api.ErrName}, {model("ä", x), api.ErrName}, {model(sixteen+"a", x), api.ErrName}, {model("a", x, "", x), api.ErrName},
		{model("a", x, "a", x), api.ErrOrder}, {model("b", x, "a", x), api.ErrOrder}, {model("ab", x, "a", x), api.ErrOrder}, {model("a0", x, "a-", x), api.ErrOrder}, {model("a", x, "c", x, "b", x), api.ErrOrder}, {model("a", x, "c", x, "c", x), api.ErrOrder},
		{model("a", wide), api.ErrArg}, {model("a", badSort), api.ErrSort}, {model("a", x, "b", badSort), api.ErrSort}, {model("a", x, "b", txt("ab", 1)), api.ErrArg}, {model("a", of(arr(8, 2), bit(4, 1))), api.ErrArg},
		// For each name: the name, its order, its value.
		{model("A", badSort), api.ErrName}, {model("b", x, "A", badSort), api.ErrName}, {model("b", x, "a", badSort), api.ErrOrder}, {model("b", badSort, "A", x), api.ErrSort}, {model("b", wide, "a", x), api.ErrArg}, {model("b", x, "a", x, "C", x), api.ErrOrder}, {model("b", x, "C", x, "a", x), api.ErrName}, {model("a", wide, "b", badSort), api.ErrArg}, {model("a", badSort, "b", wide), api.ErrSort},
	} {
		m, changed := roomy(k.m)
		if e := eval.Valid(m); e != k.e {
			t.Errorf("%d: %v: %d, not %d", i, k.m, e, k.e)
		}
		if changed() {
			t.Errorf("%d: %v has been changed", i, k.m)
		}
	}
}

// isName is section 7, word by word.
func isName(s string) bool {
	for i, c := range []byte(s) {
		small := 'a' <= c && c <= 'z'
		if !small && (i == 0 || c != '-' && (c < '0' || c > '9')) {
			return false
		}
	}
	return len(s) >= 1 && len(s) <= 16
}

// validModel is P8.1, word by word.
func validModel(m M) api.Errno {
	if len(m.Values) != len(m.Names) {
		return api.ErrArg
	}
	for i := range m.Names {
		if !isName(m.Names[i]) {
			return api.ErrName
		}
		if i > 0 && strings.Compare(m.Names[i-1], m.Names[i]) != -1 {
			return api.ErrOrder
		}
		if e := value.Valid(m.Values[i]); e != api.OK {
			return e
		}
	}
	return api.OK
}

// faultyModel is a model that can have errors.
func faultyModel(r *rand.Rand) M {
	var m M
	for range r.IntN(5) {
		b := make([]byte, 1+r.IntN(2))
		for i := range b {
			b[i] = "abcdefghijklmnopqrstuvwxyz-0A"[r.IntN(26+r.IntN(4))]
		}
		m.Names = append(m.Names, string(b))
		m.Values = append(m.Values, randomValue(r, []S{bv(1 + r.IntN(8)), str(r.IntN(5)), arr(3, 2), ars(2, 1)}[r.IntN(4)]))
	}
	if r.IntN(3) > 0 {
		slices.Sort(m.Names)
	}
	if r.IntN(4) == 0 && len(m.Values) > 0 {
		v := &m.Values[r.IntN(len(m.Values))]
		v.Sort.N += r.IntN(3) - 1
		v.U += r.Uint64N(3)
	}
	if r.IntN(8) == 0 {
		m.Values = append(m.Values, num(0, 1))
	}
	return m
}

// P8.1: names byte by byte, and random models.
func TestValidReference(t *testing.T) {
	for c := range 256 {
		for _, name := range []string{string([]byte{byte(c)}), string([]byte{'a', byte(c)}), string([]byte{byte(c), 'a'})} {
			m := model(name, num(1, 1))
			if e := eval.Valid(m); e != validModel(m) {
				t.Errorf("%q: %d", name, e)
			}
		}
	}
	r := random(8)
	seen := map[api.Errno]int{}
	for range 20000 {
		m := faultyModel(r)
		e := eval.Valid(m)
		if e != validModel(m) {
			t.Fatalf("%v: %d, not %d", m, e, validModel(m))
		}
		seen[e]++
	}
	for _, e := range []api.Errno{api.OK, api.ErrArg, api.ErrName, api.ErrOrder, api.ErrSort} {
		if seen[e] < 50 {
			t.Errorf("%d models with the error %d", seen[e], e)
		}
	}
}

// P8.5: variables without values, in the order of the names.
func TestComplete(t *testing.T) {
	octets, words := arr(8, 8), ars(3, 2)
	g := graph(t, variable("y", bv(8)), variable("s", str(3)), op(api.Not, 0), variable("a", octets), variable("w", words), variable("b", bv(1)))
	a, s := of(octets, bit(5, 9), bit(6, 1)), txt("aa", 3)
	for i, x := range []struct {
		g       G
		m, want M
	}{
		{g, M{}, model("a", of(octets), "b", num(0, 1), "s", txt("", 3), "w", of(words), "y", num(0, 8))},
		{g, model("a", a, "s", s), model("a", a, "b", num(0, 1), "s", s, "w", of(words), "y", num(0, 8))},
		{g, model("a-", num(7, 7), "b", num(1, 1), "z", a), model("a", of(octets), "a-", num(7, 7), "b", num(1, 1), "s", txt("", 3), "w", of(words), "y", num(0, 8), "z", a)},
		{g, model("a", a, "b", num(1, 1), "s", s, "w", of(words, word(0, "x")), "y", num(255, 8)), model("a", a, "b", num(1, 1), "s", s, "w", of(words, word(0, "x")), "y", num(255, 8))},
		{G{}, M{}, M{}}, {G{}, model("a", a, "s", s), model("a", a, "s", s)}, {graph(t, N{Op: api.Text, Text: "y"}), model("y", a), model("y", a)},
	} {
		from, graphChanged := roomyGraph(x.g)
		under, changed := roomy(x.m)
		m, e := eval.Complete(from, under)
		if e != api.OK || !equal(m, x.want) || eval.Valid(m) != api.OK {
			t.Errorf("%d: %v, %d, not %v", i, m, e, x.want)
		}
		scribble(m.Values)
		for k := range m.Names[:cap(m.Names)] {
			m.Names[:cap(m.Names)][k] = "scribbled"
		}
		if changed() || graphChanged() {
			t.Errorf("%d: the result shares memory with the arguments", i)
		}
	}
}

// P8.5: errors in their order.
func TestCompleteErrors(t *testing.T) {
	fails := func(i int, g G, m M, want api.Errno) {
		t.Helper()
		if got, e := eval.Complete(g, m); !empty(got) || e != want {
			t.Errorf("%d: %v, %d, not %d", i, got, e, want)
		}
	}
	for i, x := range failing(t) {
		fails(i, x.g, x.m, x.e)
	}
	g := graph(t, variable("x", bv(8)), variable("y", bv(8)))
	for i, m := range []M{model("x", num(1, 7)), model("y", num(1, 7)), model("y", txt("", 8), "z", num(1, 7)), model("x", num(1, 8), "y", num(1, 9))} {
		fails(i, g, m, api.ErrSort)
	}
}

// P8.5: the model stays, all else is 0, and Of then finds all variables.
func TestCompleted(t *testing.T) {
	r := random(9)
	for range 400 {
		g := randomGraph(r, r.IntN(40))
		all := randomModel(r, g)
		m := model("a-other", num(3, 3), "zother", txt("o", 2))
		for i, name := range all.Names {
			if r.IntN(2) == 0 {
				m.Names = slices.Insert(m.Names, len(m.Names)-1, name)
				m.Values = slices.Insert(m.Values, len(m.Values)-1, all.Values[i])
			}
		}
		got, e := eval.Complete(g, m)
		if e != api.OK || eval.Valid(got) != api.OK || len(got.Names) != len(all.Names)+2 {
			t.Fatalf("%v of %v: %v, %d", m, g, got, e)
		}
		for i, name := range got.Names {
			var want V
			if k := slices.Index(m.Names, name); k >= 0 {
				want = m.Values[k]
			} else {
				k := slices.IndexFunc(g.Nodes, func(n N) bool { return n.Op == api.Var && n.Text == name })
				want.Sort = g.Nodes[k].Sort
			}
			if !same(got.Values[i], want) {
				t.Fatalf("%v of %v: %s is %v, not %v", m, g, name, got.Values[i], want)
			}
		}
		if again, e := eval.Complete(g, got); e != api.OK || !equal(again, got) {
			t.Fatalf("%v has become %v, %d", got, again, e)
		}
		if values, e := eval.Of(g, got); e != api.OK || len(values) != len(g.Nodes) {
			t.Fatalf("%v under %v: %d values, %d", g, got, len(values), e)
		}
		if _, e := eval.Of(g, m); (e == api.OK) != (len(m.Names) == len(got.Names)) || e != api.OK && e != api.ErrNone {
			t.Fatalf("%v under %v: %d", g, m, e)
		}
	}
}

// P8.5: as many variables as a graph can have, in any order, take moments.
func TestCompleteLarge(t *testing.T) {
	r := random(10)
	var g G
	for i := range 4096 {
		b := []byte("v0000")
		for k := range 4 {
			b[4-k] = "0123456789abcdef"[i>>(4*k)&15]
		}
		g.Nodes = append(g.Nodes, variable(string(b), bv(64)))
	}
	r.Shuffle(len(g.Nodes), func(i, j int) { g.Nodes[i], g.Nodes[j] = g.Nodes[j], g.Nodes[i] })
	if e := term.Valid(g); e != api.OK {
		t.Fatal(e)
	}
	m, e := eval.Complete(g, model("v0fff", num(7, 64), "w", num(1, 1)))
	if e != api.OK || len(m.Names) != 4097 || eval.Valid(m) != api.OK || !same(m.Values[4095], num(7, 64)) || !same(m.Values[4094], num(0, 64)) {
		t.Errorf("%d names, %d", len(m.Names), e)
	}
}
