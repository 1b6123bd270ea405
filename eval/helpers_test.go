package eval_test

import (
	"bytes"
	"fmt"
	"math/big"
	"math/rand/v2"
	"slices"
	"strings"
	"testing"

	"enthymeme/api"
	"enthymeme/eval"
	"enthymeme/regex"
	"enthymeme/term"
	"enthymeme/value"
)

type (
	V = value.Value
	E = value.Entry
	S = api.Sort
	N = api.Node
	G = term.Graph
	M = eval.Model
)

// bv, str, arr and ars are the four kinds of sorts.
func bv(n int) S         { return S{Kind: api.BV, N: n} }
func str(n int) S        { return S{Kind: api.Str, N: n} }
func arr(n, index int) S { return S{Kind: api.Arr, N: n, Index: index} }
func ars(n, index int) S { return S{Kind: api.Ars, N: n, Index: index} }

// num, txt and of are values: of a bit-vector, of a string of at most n bytes, and of an array.
func num(u uint64, width int) V     { return V{Sort: bv(width), U: u} }
func txt(s string, n int) V         { return V{Sort: str(n), S: s} }
func of(s S, entries ...E) V        { return V{Sort: s, Map: entries} }
func bit(i, u uint64) E             { return E{Index: i, U: u} }
func word(i uint64, s string) E     { return E{Index: i, S: s} }
func op(o int, kids ...int) N       { return N{Op: o, Kids: kids} }
func variable(name string, s S) N   { return N{Op: api.Var, Text: name, Sort: s} }
func sized(o, n, m int, k ...int) N { return N{Op: o, N: n, M: m, Kids: k} }
func in(text string, kids ...int) N { return N{Op: api.In, Text: text, Kids: kids} }

// same compares values field by field; no entries are nil or empty.
func same(a, b V) bool {
	return a.Sort == b.Sort && a.U == b.U && a.S == b.S && slices.Equal(a.Map, b.Map)
}

// alike compares lists of values.
func alike(a, b []V) bool {
	return slices.EqualFunc(a, b, same)
}

// equal compares models.
func equal(a, b M) bool {
	return slices.Equal(a.Names, b.Names) && alike(a.Values, b.Values)
}

// empty reports whether a model is what comes with an error.
func empty(m M) bool {
	return len(m.Names) == 0 && len(m.Values) == 0
}

// model returns one of names and values in turn.
func model(pairs ...any) M {
	var m M
	for i := 0; i < len(pairs); i += 2 {
		m.Names = append(m.Names, pairs[i].(string))
		m.Values = append(m.Values, pairs[i+1].(V))
	}
	return m
}

// graph returns the graph of some nodes, with their sorts.
func graph(t *testing.T, nodes ...N) G {
	t.Helper()
	var g G
	for _, n := range nodes {
		h, i, e := term.Add(g, n)
		if e != api.OK || i != len(g.Nodes) {
			t.Fatalf("node %d is %d, error %d", len(g.Nodes), i, e)
		}
		g = h
	}
	return g
}

// roomyValues returns values whose lists are followed by others in memory, and a function that reports whether any of these, or of their own, has been changed.
func roomyValues(l []V) ([]V, func() bool) {
	memory := append(slices.Clone(l), num(5, 8), txt("room", 9))
	var watched []func() bool
	for i := range memory {
		entries := append(slices.Clone(memory[i].Map), E{Index: 1, U: 2, S: "3"}, E{Index: 4, U: 5, S: "6"})
		before := slices.Clone(entries)
		memory[i].Map = entries[:len(memory[i].Map)]
		watched = append(watched, func() bool { return !slices.Equal(entries, before) })
	}
	before := slices.Clone(memory)
	return memory[:len(l)], func() bool {
		return !alike(memory, before) || slices.ContainsFunc(watched, func(changed func() bool) bool { return changed() })
	}
}

// roomy returns a model as roomyValues does.
func roomy(m M) (M, func() bool) {
	values, changed := roomyValues(m.Values)
	names := append(slices.Clone(m.Names), "room", "room")
	before := slices.Clone(names)
	return M{Names: names[:len(m.Names)], Values: values}, func() bool { return changed() || !slices.Equal(names, before) }
}

// roomyGraph returns a graph whose lists are followed by others in memory, and a function that reports whether any of these has been changed.
func roomyGraph(g G) (G, func() bool) {
	memory := append(slices.Clone(g.Nodes), variable("room", bv(1)))
	var watched []func() bool
	for i := range memory {
		kids := append(slices.Clone(memory[i].Kids), -7, -7)
		before := slices.Clone(kids)
		memory[i].Kids = kids[:len(memory[i].Kids)]
		watched = append(watched, func() bool { return !slices.Equal(kids, before) })
	}
	before := fmt.Sprint(memory)
	return G{Nodes: memory[:len(g.Nodes)]}, func() bool {
		return fmt.Sprint(memory) != before || slices.ContainsFunc(watched, func(changed func() bool) bool { return changed() })
	}
}

// scribble overwrites all entries of values, and those that there is room for behind them.
func scribble(l []V) {
	for _, v := range l[:cap(l)] {
		for i := range v.Map[:cap(v.Map)] {
			v.Map[:cap(v.Map)][i] = E{Index: 77, U: 77, S: "scribbled"}
		}
	}
}

// copied returns values that share no memory.
func copied(l []V) []V {
	l = slices.Clone(l)
	for i := range l {
		l[i].Map = slices.Clone(l[i].Map)
	}
	return l
}

// element is the element of an array at an index, by the chapter of values.
func element(a V, index uint64) V {
	v := V{Sort: S{Kind: a.Sort.Kind - api.Arr, N: a.Sort.N}}
	for _, x := range a.Map {
		if x.Index == index {
			v.U, v.S = x.U, x.S
		}
	}
	return v
}

// elements returns an array of a sort with the elements that a function says.
func elements(s S, at func(index uint64) V) V {
	a := V{Sort: s}
	for i := range uint64(1) << s.Index {
		if v := at(i); v.U != 0 || v.S != "" {
			a.Map = append(a.Map, E{Index: i, U: v.U, S: v.S})
		}
	}
	return a
}

// truth is a truth value.
func truth(b bool) V {
	if b {
		return num(1, 1)
	}
	return num(0, 1)
}

// meaning is the table of the chapter, word by word: the value of a node with a sort.
func meaning(n N, s S, k []V) V {
	v := V{Sort: s}
	switch {
	case n.Op == api.Num:
		v.U = n.U
	case n.Op == api.Text:
		v.S = n.Text
	case n.Op >= api.Not && n.Op <= api.Slt || n.Op >= api.Concat && n.Op <= api.Sext:
		v.U = meaningOfBits(n, s, k)
	case n.Op == api.Eq:
		v.U = truth(equals(k[0], k[1])).U
	case n.Op == api.Ite:
		v = k[2]
		if k[0].U == 1 {
			v = k[1]
		}
		v.Sort = s
	case n.Op == api.Select:
		v = element(k[0], k[1].U)
	case n.Op == api.Store:
		v = elements(s, func(i uint64) V {
			if i == k[1].U {
				return k[2]
			}
			return element(k[0], i)
		})
	case n.Op == api.Diff:
		v.U = difference(k[0], k[1])
	case n.Op >= api.Len:
		v.U, v.S = meaningOfStrings(n, k)
	}
	return v
}

// equals is what Eq asks.
func equals(a, b V) bool {
	switch a.Sort.Kind {
	case api.BV:
		return a.U == b.U
	case api.Str:
		return a.S == b.S
	}
	for i := range uint64(1) << a.Sort.Index {
		if !same(element(a, i), element(b, i)) {
			return false
		}
	}
	return true
}

// difference is what Diff asks.
func difference(a, b V) uint64 {
	for i := range uint64(1) << a.Sort.Index {
		if !same(element(a, i), element(b, i)) {
			return i
		}
	}
	return 0
}

// meaningOfBits computes with numbers without limits.
func meaningOfBits(n N, s S, k []V) uint64 {
	power := func(n int) *big.Int { return new(big.Int).Lsh(big.NewInt(1), uint(n)) }
	w := k[0].Sort.N
	a, b := new(big.Int).SetUint64(k[0].U), new(big.Int)
	if len(k) > 1 {
		b.SetUint64(k[1].U)
	}
	signed := func(x *big.Int) *big.Int {
		if x.Bit(w-1) == 1 {
			return new(big.Int).Sub(x, power(w))
		}
		return x
	}
	r := new(big.Int)
	far := b.Cmp(big.NewInt(int64(w))) >= 0
	switch n.Op {
	case api.Not:
		r.Sub(r.Sub(power(w), big.NewInt(1)), a)
	case api.Neg:
		r.Neg(a)
	case api.And:
		r.And(a, b)
	case api.Or:
		r.Or(a, b)
	case api.Xor:
		r.Xor(a, b)
	case api.Add:
		r.Add(a, b)
	case api.Mul:
		r.Mul(a, b)
	case api.Udiv:
		if r.SetInt64(-1); b.Sign() != 0 {
			r.Quo(a, b)
		}
	case api.Urem:
		if r.Set(a); b.Sign() != 0 {
			r.Rem(a, b)
		}
	case api.Shl:
		if !far {
			r.Lsh(a, uint(b.Uint64()))
		}
	case api.Lshr:
		if !far {
			r.Rsh(a, uint(b.Uint64()))
		}
	case api.Ashr:
		r.Rsh(signed(a), uint(min(b.Uint64(), 64)))
	case api.Ult:
		r.SetUint64(truth(a.Cmp(b) < 0).U)
	case api.Slt:
		r.SetUint64(truth(signed(a).Cmp(signed(b)) < 0).U)
	case api.Concat:
		r.Add(r.Mul(a, power(k[1].Sort.N)), b)
	case api.Extract:
		r.Rsh(a, uint(n.M))
	case api.Zext:
		r.Set(a)
	case api.Sext:
		r.Set(signed(a))
	}
	return r.Mod(r, power(s.N)).Uint64()
}

// meaningOfStrings goes through bytes.
func meaningOfStrings(n N, k []V) (uint64, string) {
	x := k[0].S
	least := -1
	if n.Op == api.Find || n.Op == api.Replace {
		for i := len(x) - len(k[1].S); i >= 0; i-- {
			if x[i:i+len(k[1].S)] == k[1].S {
				least = i
			}
		}
	}
	var s []byte
	switch n.Op {
	case api.Len:
		return uint64(len(x)), ""
	case api.Byte:
		for i := range x {
			if i == n.N {
				return uint64([]byte(x)[i]), ""
			}
		}
	case api.Cat:
		s = append([]byte(x), k[1].S...)
	case api.Sub:
		for i := range []byte(x) {
			if uint64(i) >= k[1].U && uint64(i) < k[1].U+k[2].U {
				s = append(s, x[i])
			}
		}
	case api.Find:
		if least < 0 {
			return 127, ""
		}
		return uint64(least), ""
	case api.Replace:
		s = []byte(x)
		if least >= 0 {
			s = bytes.Join([][]byte{s[:least], []byte(k[2].S), s[least+len(k[1].S):]}, nil)
		}
	case api.In:
		r, _, _ := regex.Parse(n.Text)
		ok, _ := regex.Match(r, x)
		return truth(ok).U, ""
	case api.Char:
		s = []byte{byte(k[0].U)}
	}
	return 0, string(s)
}

// texts of regular expressions in normal form.
var normalTexts = []string{"none", "empty", "'a'", "['a'-'z']", "'a'*'b'", "'a'|'b'", "!none", "\\x00", "!'a'&!'b'", "('a''b')*", "\\xff|'a'"}

// randomWidth is any width; the ends of the range are as likely as what is between them.
func randomWidth(r *rand.Rand) int {
	return []int{1, 2, 7, 8, 63, 64, 1 + r.IntN(64), 1 + r.IntN(64)}[r.IntN(8)]
}

// randomArray is a sort of arrays with few elements.
func randomArray(r *rand.Rand) S {
	if r.IntN(2) == 0 {
		return arr(randomWidth(r), 1+r.IntN(4))
	}
	return ars(r.IntN(6), 1+r.IntN(4))
}

// randomString has few different bytes.
func randomString(r *rand.Rand, most int) string {
	var s strings.Builder
	for range r.IntN(1 + min(most, 1+r.IntN(64))) {
		s.WriteByte("aab\x00\xff"[r.IntN(5)])
	}
	return s.String()
}

// randomValue is a valid value of a sort.
func randomValue(r *rand.Rand, s S) V {
	v := V{Sort: s}
	switch s.Kind {
	case api.BV:
		v.U = []uint64{r.Uint64(), 0, 1, ^uint64(0), uint64(r.IntN(70)), 1 << (s.N - 1)}[r.IntN(6)] & (1<<s.N - 1)
	case api.Str:
		v.S = randomString(r, s.N)
	default:
		v = elements(s, func(uint64) V {
			if r.IntN(2) == 0 {
				return V{}
			}
			return randomValue(r, S{Kind: s.Kind - api.Arr, N: s.N})
		})
	}
	return v
}

// varied returns a value of the same sort, often the same one, or one that differs in one element.
func varied(r *rand.Rand, v V) V {
	switch r.IntN(4) {
	case 0:
		return randomValue(r, v.Sort)
	case 1:
		if v.Sort.Kind >= api.Arr {
			at := r.Uint64N(1 << v.Sort.Index)
			return elements(v.Sort, func(i uint64) V {
				if i == at {
					return randomValue(r, element(v, i).Sort)
				}
				return element(v, i)
			})
		}
	}
	v.Map = slices.Clone(v.Map)
	return v
}

// randomApplied is a node that is no variable, with values of kids that fit.
func randomApplied(r *rand.Rand) (N, []V) {
	n := N{Op: 1 + r.IntN(api.Char)}
	w := randomWidth(r)
	x, y := randomValue(r, bv(w)), randomValue(r, bv(w))
	s := func(most int) V { return randomValue(r, str(r.IntN(most+1))) }
	seven := func() V { return num([]uint64{0, 1, 2, uint64(r.IntN(128)), 127}[r.IntN(5)], 7) }
	a := randomValue(r, randomArray(r))
	index := randomValue(r, bv(a.Sort.Index))
	switch n.Op {
	case api.Num:
		n.U, n.Sort = x.U, x.Sort
		return n, nil
	case api.Text:
		n.Text = randomString(r, 64)
		return n, nil
	case api.Zero:
		n.Sort = a.Sort
		return n, nil
	case api.Eq:
		p := s(64)
		return n, [][]V{{x, varied(r, x)}, {p, txt(p.S, len(p.S)+r.IntN(65-len(p.S)))}, {p, s(64)}, {a, varied(r, a)}, {a, varied(r, a)}}[r.IntN(5)]
	case api.Ite:
		return n, append([]V{num(r.Uint64N(2), 1)}, [][]V{{x, y}, {s(64), s(64)}, {a, varied(r, a)}}[r.IntN(3)]...)
	case api.Concat:
		w = 1 + r.IntN(63)
		return n, []V{randomValue(r, bv(w)), randomValue(r, bv(1+r.IntN(64-w)))}
	case api.Extract:
		n.N = r.IntN(w)
		n.M = r.IntN(n.N + 1)
		return n, []V{x}
	case api.Zext, api.Sext:
		w = 1 + r.IntN(63)
		n.N = 1 + r.IntN(64-w)
		return n, []V{randomValue(r, bv(w))}
	case api.Select:
		return n, []V{a, index}
	case api.Store:
		v := randomValue(r, element(a, 0).Sort)
		if v.Sort.Kind == api.Str {
			v = s(a.Sort.N)
		}
		return n, []V{a, index, v}
	case api.Diff:
		return n, []V{a, varied(r, a)}
	case api.Len:
		return n, []V{s(64)}
	case api.Byte:
		n.N = r.IntN(64)
		return n, []V{s(64)}
	case api.Cat:
		return n, []V{s(32), s(32)}
	case api.Sub:
		return n, []V{s(64), seven(), seven()}
	case api.Find:
		return n, []V{s(64), s(3)}
	case api.Replace:
		return n, []V{s(50), s(3), s(14)}
	case api.In:
		n.Text = normalTexts[r.IntN(len(normalTexts))]
		return n, []V{s(64)}
	case api.Char:
		return n, []V{randomValue(r, bv(8))}
	}
	if n.Op <= api.Neg {
		return n, []V{x}
	}
	return n, []V{x, y}
}

// sortOver is the sort of a node whose kids are variables of the sorts of values.
func sortOver(n N, kids []V) (S, api.Errno) {
	var g G
	n.Kids = nil
	for i, k := range kids {
		g.Nodes = append(g.Nodes, variable(fmt.Sprint("kid-", i), k.Sort))
		n.Kids = append(n.Kids, i)
	}
	return term.SortOf(g, n)
}

// randomGraph returns a valid graph with a number of nodes, and variables of several sorts whose names tell the sorts.
func randomGraph(r *rand.Rand, size int) G {
	first := []N{variable("b", bv(1)), variable("c", bv(1)), variable("s", bv(7)), variable("t", bv(7)), variable("k", bv(8)), variable("l", bv(8)), variable("i", bv(2)), variable("j", bv(2)), variable("p", str(5)), variable("q", str(5)), variable("d", arr(8, 2)), variable("e", arr(8, 2)), variable("f", ars(5, 2)), variable("g", ars(5, 2))}
	r.Shuffle(len(first), func(i, j int) { first[i], first[j] = first[j], first[i] })
	g := G{Nodes: first[:min(size, 4+r.IntN(len(first)-3))]}
	for len(g.Nodes) < size {
		n, kids := randomApplied(r)
		n.Kids = nil
		for range kids {
			n.Kids = append(n.Kids, r.IntN(len(g.Nodes)))
		}
		// Most nodes fit nowhere: only those that do are added.
		if h, _, e := term.Add(g, n); e == api.OK {
			g = h
		}
	}
	return g
}

// randomModel returns a valid model with values for all variables of a graph.
func randomModel(r *rand.Rand, g G) M {
	var m M
	for _, i := range term.Vars(g) {
		m.Names = append(m.Names, g.Nodes[i].Text)
	}
	slices.Sort(m.Names)
	for _, name := range m.Names {
		for _, n := range g.Nodes {
			if n.Op == api.Var && n.Text == name {
				m.Values = append(m.Values, randomValue(r, n.Sort))
			}
		}
	}
	return m
}

// random returns a source of random numbers.
func random(seed uint64) *rand.Rand {
	return rand.New(rand.NewPCG(8, seed))
}
