package auto_test

import (
	"math/rand/v2"
	"slices"
	"strings"
	"testing"

	"enthymeme/api"
	"enthymeme/auto"
	"enthymeme/regex"
)

// P5.2
func TestOf(t *testing.T) {
	stay := func(state, n int) []int { return slices.Repeat([]int{state}, n) }
	one := func(cuts []int, first ...int) A { // of one byte: what follows it is accepted, what follows another one never is
		return A{Cuts: cuts, Next: [][]int{first, stay(1, len(cuts)), stay(1, len(cuts))}, Accept: []bool{false, false, true}}
	}
	for i, x := range []struct {
		s    string
		want A
	}{
		{"none", nothing}, {"!none", everything}, {"all()", everything}, {"alt()", nothing}, {"'a'none", nothing}, {"none*", line([]int{0}, 1, 1)}, {"'a'|!none", everything},
		{"empty", line([]int{0}, 1, 1)}, {"!empty", line([]int{1}, 1, 1)}, {"cat()", line([]int{0}, 1, 1)},
		{"[\\x00-\\xff]", line([]int{1}, 1, 2, 2)},
		{"'a'", one([]int{0, 97, 98}, 1, 2, 1)}, {"cat('a')", one([]int{0, 97, 98}, 1, 2, 1)}, {"\\xff", one([]int{0, 255}, 1, 2)}, {"\\xfe", one([]int{0, 254, 255}, 1, 2, 1)}, {"['a'-\\xff]", one([]int{0, 97}, 1, 2)}, {"['a'-\\xfe]", one([]int{0, 97, 255}, 1, 2, 1)}, {"\\x01", one([]int{0, 1, 2}, 1, 2, 1)}, {"[\\x01-\\xff]", one([]int{0, 1}, 1, 2)},
		{"\\x00", A{Cuts: []int{0, 1}, Next: [][]int{{1, 2}, {2, 2}, {2, 2}}, Accept: []bool{false, true, false}}},
		{"[\\x00-'a']", A{Cuts: []int{0, 98}, Next: [][]int{{1, 2}, {2, 2}, {2, 2}}, Accept: []bool{false, true, false}}},
		// Each Range of the normal form has its cuts, even where nothing begins.
		{"'a'|'b'", one([]int{0, 97, 98, 99}, 1, 2, 2, 1)}, {"'b'|'a'|'b'", one([]int{0, 97, 98, 99}, 1, 2, 2, 1)}, {"'a'|['a'-'c']", one([]int{0, 97, 98, 100}, 1, 2, 2, 1)}, {"['a'-'c']&['b'-'d']", one([]int{0, 97, 98, 100, 101}, 1, 1, 2, 1, 1)}, {"'c'|'a'", one([]int{0, 97, 98, 99, 100}, 1, 2, 1, 2, 1)}, {"'a'|[\\x00-\\xff]", A{Cuts: []int{0, 97, 98}, Next: [][]int{{1, 1, 1}, {2, 2, 2}, {2, 2, 2}}, Accept: []bool{false, true, false}}},
		{"'a'&'b'", A{Cuts: []int{0, 97, 98, 99}, Next: [][]int{{1, 1, 1, 1}, {1, 1, 1, 1}}, Accept: []bool{false, false}}},
		// What is not in the normal form has none.
		{"'a'none|'b'", one([]int{0, 98, 99}, 1, 2, 1)}, {"'b'(empty|none)", one([]int{0, 98, 99}, 1, 2, 1)},
		// The example of the chapter.
		{"'a'*", A{Cuts: []int{0, 97, 98}, Next: [][]int{{1, 0, 1}, {1, 1, 1}}, Accept: []bool{true, false}}},
		{"!('a'*)", A{Cuts: []int{0, 97, 98}, Next: [][]int{{1, 0, 1}, {1, 1, 1}}, Accept: []bool{false, true}}},
		// Expressions that are not equal are not one state.
		{"'a'*'a'*", A{Cuts: []int{0, 97, 98}, Next: [][]int{{1, 2, 1}, {1, 1, 1}, {1, 2, 1}}, Accept: []bool{true, false, true}}},
		{"'a'!'a'", A{Cuts: []int{0, 97, 98}, Next: [][]int{{1, 2, 1}, {1, 1, 1}, {3, 4, 3}, {3, 3, 3}, {3, 3, 3}}, Accept: []bool{false, false, true, true, false}}},
		{"'a''a'", A{Cuts: []int{0, 97, 98}, Next: [][]int{{1, 2, 1}, {1, 1, 1}, {1, 3, 1}, {1, 1, 1}}, Accept: []bool{false, false, false, true}}},
		{"'a''b'|'a''c'", A{Cuts: []int{0, 97, 98, 99, 100}, Next: [][]int{{1, 2, 1, 1, 1}, stay(1, 5), {1, 1, 3, 3, 1}, stay(1, 5)}, Accept: []bool{false, false, false, true}}},
		// The order in which states are reached: the classes of each state in order, then the next state.
		{"'b''c'|'a'", A{Cuts: []int{0, 97, 98, 99, 100}, Next: [][]int{{1, 2, 3, 1, 1}, stay(1, 5), stay(1, 5), {1, 1, 1, 2, 1}}, Accept: []bool{false, false, true, false}}},
		{"('a''b')*", A{Cuts: []int{0, 97, 98, 99}, Next: [][]int{{1, 2, 1, 1}, stay(1, 4), {1, 1, 0, 1}}, Accept: []bool{true, false, false}}},
		{"'a'|'c''b''a'", A{Cuts: []int{0, 97, 98, 99, 100}, Next: [][]int{{1, 2, 1, 3, 1}, stay(1, 5), stay(1, 5), {1, 1, 4, 1, 1}, {1, 2, 1, 1, 1}}, Accept: []bool{false, false, true, false, false}}},
	} {
		got, e := auto.Of(read(t, x.s))
		if !same(got, x.want) || e != api.OK {
			t.Errorf("%d: %s: %v, %d, not %v", i, x.s, got, e, x.want)
		}
		if e := auto.Valid(got); e != api.OK {
			t.Errorf("%d: %s: not valid: %d", i, x.s, e)
		}
	}
}

// P5.2: errors of package regex.
func TestOfErrors(t *testing.T) {
	type R = regex.Regex
	a := R{Kind: regex.Range, Lo: 97, Hi: 97}
	itself := R{Kind: regex.Alt, Kids: []R{{}}}
	itself.Kids[0] = itself
	for i, x := range []struct {
		r    R
		want api.Errno
	}{
		{R{Kind: 8}, api.ErrArg}, {R{Kind: -1}, api.ErrArg}, {R{Kind: regex.Range, Lo: 2, Hi: 1}, api.ErrArg}, {R{Kind: regex.Empty, Hi: 1}, api.ErrArg}, {R{Kind: regex.Not}, api.ErrArg},
		{R{Kind: regex.Cat, Kids: []R{{}, {Kind: regex.Star, Kids: []R{a, a}}}}, api.ErrArg}, // its normal form would be None
		{R{Kind: regex.Cat, Kids: slices.Repeat([]R{a}, 64)}, api.ErrLimit},
		{R{Kind: 9, Kids: slices.Repeat([]R{a}, 64)}, api.ErrLimit},
		{R{Kind: regex.Alt, Kids: slices.Repeat([]R{a}, 64)}, api.ErrLimit}, // its normal form would be small
		{itself, api.ErrLimit},
		{R{Kind: regex.Cat, Kids: slices.Repeat([]R{{Kind: regex.All}}, 32)}, api.ErrLimit}, // the normal form is too large
	} {
		if got, e := auto.Of(x.r); !zero(got) || e != x.want {
			t.Errorf("%d: %v, %d, not %d", i, got, e, x.want)
		}
	}
}

// P5.2: limits of derivatives and states.
func TestOfLimits(t *testing.T) {
	many := func(n int, s string) string { return strings.Repeat(s, n) }
	for i, x := range []struct {
		s      string
		states int // 0 if there is an error
	}{
		{many(5, "'a'*") + many(5, "'b'"), 8},
		{many(7, "'a'*") + many(7, "'b'"), 0},               // the derivative by a is too large
		{"'c''c''c'" + many(7, "'a'*") + many(7, "'b'"), 0}, // that of the last one of its derivatives is
		{"'c'none" + many(7, "'a'*") + many(7, "'b'"), 1},   // it is not needed
		{many(62, "'a'"), 64},                               // each rest, and none
		{many(63, "'a'"), 65},
		{"[\\x00-\\xff]*'a'" + many(6, "[\\x00-\\xff]"), 128}, // which of the last 7 bytes were a
		{"[\\x00-\\xff]*'a'" + many(7, "[\\x00-\\xff]"), 256}, // the same for 8
		{"['a'-'b']*'a'" + many(6, "['a'-'b']"), 129},         // and none after another byte
		{"['a'-'b']*'a'" + many(7, "['a'-'b']"), 0},           // 257
		{"[\\x00-\\xff]*'a'" + many(8, "[\\x00-\\xff]"), 0},   // 512
		{"!([\\x00-\\xff]*'a'" + many(7, "[\\x00-\\xff]") + ")", 256},
		{"!(['a'-'b']*'a'" + many(7, "['a'-'b']") + ")", 0},
	} {
		got, e := auto.Of(read(t, x.s))
		if x.states == 0 {
			if !zero(got) || e != api.ErrLimit {
				t.Errorf("%d: %s: %d states, %d", i, x.s, len(got.Next), e)
			}
		} else if len(got.Next) != x.states || len(got.Accept) != x.states || e != api.OK {
			t.Errorf("%d: %s: %d states, %d, not %d", i, x.s, len(got.Next), e, x.states)
		}
	}
}

// P5.2, against the chapter's words.
func TestOfAtRandom(t *testing.T) {
	r := rand.New(rand.NewPCG(5, 2))
	limits := 0
	for range 3000 {
		x := randomRegex(r, 1+r.IntN(64))
		got, e := auto.Of(x)
		want, f := derived(x)
		if e != f || !same(got, want) {
			text, _ := regex.Print(x)
			t.Fatalf("%s: %v, %d, not %v, %d", text, got, e, want, f)
		}
		if e != api.OK {
			limits++
		} else if !inOrder(got) {
			t.Fatalf("%v is not in order", got)
		}
	}
	if limits < 20 || limits > 2000 {
		t.Errorf("%d had too many states or too large ones", limits)
	}
}

// derived is what the chapter says of the automaton of a valid expression, with states that are looked for by Compare.
func derived(r regex.Regex) (A, api.Errno) {
	first, e := regex.Normal(r)
	if e != api.OK {
		return A{}, e
	}
	var a A
	for c := range 256 {
		if c == 0 || cutBy(first, c) {
			a.Cuts = append(a.Cuts, c)
		}
	}
	states := []regex.Regex{first}
	for i := 0; i < len(states); i++ {
		var next []int
		for _, c := range a.Cuts {
			d, e := regex.Derive(states[i], byte(c))
			if e != api.OK {
				return A{}, e
			}
			n := slices.IndexFunc(states, func(s regex.Regex) bool { return regex.Compare(s, d) == 0 })
			if n < 0 {
				n = len(states)
				states = append(states, d)
			}
			next = append(next, n)
		}
		nullable, _ := regex.Nullable(states[i])
		a.Next, a.Accept = append(a.Next, next), append(a.Accept, nullable)
		if len(states) > 256 {
			return A{}, api.ErrLimit
		}
	}
	return a, api.OK
}

// cutBy reports whether a Range of an expression begins at a byte, or ends ahead of it.
func cutBy(r regex.Regex, c int) bool {
	if r.Kind == regex.Range && (int(r.Lo) == c || int(r.Hi)+1 == c) {
		return true
	}
	return slices.ContainsFunc(r.Kids, func(k regex.Regex) bool { return cutBy(k, c) })
}

// P5.8
func TestDerivatives(t *testing.T) {
	r := rand.New(rand.NewPCG(5, 8))
	made, yes := 0, 0
	for range 2000 {
		x := randomRegex(r, 1+r.IntN(24))
		a, e := auto.Of(x)
		if e != api.OK {
			continue
		}
		made++
		for _, most := range []int{0, 1, 2, 3, 4, 6, 8, 64, 64} {
			s := randomString(r, most)
			want, e := regex.Match(x, s)
			if e != api.OK {
				t.Fatal(e)
			}
			if want {
				yes++
			}
			if got, e := auto.Accepts(a, s); got != want || e != api.OK {
				text, _ := regex.Print(x)
				t.Fatalf("%s with %q: %t, %d", text, s, got, e)
			}
		}
	}
	if made < 1500 || yes < 3000 {
		t.Errorf("%d automata, %d strings", made, yes)
	}
}

// P5.4
func TestBoth(t *testing.T) {
	as, bs := of(t, "'a'*"), of(t, "'b'*")
	stars := [][]int{{1, 2, 3, 1}, {1, 1, 1, 1}, {1, 2, 1, 1}, {1, 1, 3, 1}}
	loose := line([]int{0, 2}, 1, 0, 2) // a state that nothing reaches
	swap := A{Cuts: []int{0, 9}, Next: [][]int{{0, 1}, {1, 0}}, Accept: []bool{false, true}}
	turn := A{Cuts: []int{0, 9}, Next: [][]int{{2, 1}, {0, 2}, {1, 0}}, Accept: []bool{true, false, false}}
	for i, x := range []struct {
		a, b A
		or   bool
		want A
	}{
		{as, bs, false, A{Cuts: []int{0, 97, 98, 99}, Next: stars, Accept: []bool{true, false, false, false}}},
		{as, bs, true, A{Cuts: []int{0, 97, 98, 99}, Next: stars, Accept: []bool{true, false, true, true}}},
		{bs, as, true, A{Cuts: []int{0, 97, 98, 99}, Next: stars, Accept: []bool{true, false, true, true}}},
		{as, as, false, as}, {as, as, true, as}, {as, everything, false, as}, {everything, as, false, as}, {as, nothing, true, as}, {nothing, as, true, as},
		{as, nothing, false, A{Cuts: as.Cuts, Next: as.Next, Accept: []bool{false, false}}}, {nothing, as, false, A{Cuts: as.Cuts, Next: as.Next, Accept: []bool{false, false}}},
		{as, everything, true, A{Cuts: as.Cuts, Next: as.Next, Accept: []bool{true, true}}}, {everything, as, true, A{Cuts: as.Cuts, Next: as.Next, Accept: []bool{true, true}}},
		{nothing, everything, false, nothing}, {everything, nothing, true, everything},
		{circle(2), circle(3), false, line([]int{0}, 1, 2, 3, 4, 5, 0)}, {circle(2), circle(3), true, line([]int{0, 2, 3, 4}, 1, 2, 3, 4, 5, 0)},
		{circle(2), circle(4), false, circle(4)}, {circle(2), circle(4), true, line([]int{0, 2}, 1, 2, 3, 0)},
		{loose, everything, false, circle(2)}, {nothing, loose, true, circle(2)},
		// The pairs are reached class by class, not pair by pair.
		{swap, turn, false, A{Cuts: []int{0, 9}, Next: [][]int{{1, 2}, {3, 4}, {4, 1}, {0, 5}, {5, 3}, {2, 0}}, Accept: []bool{false, false, false, false, true, false}}},
		{turn, swap, true, A{Cuts: []int{0, 9}, Next: [][]int{{1, 2}, {3, 4}, {4, 1}, {0, 5}, {5, 3}, {2, 0}}, Accept: []bool{true, false, true, false, true, true}}},
	} {
		a, b := copied(x.a), copied(x.b)
		got, e := auto.Both(x.a, x.b, x.or)
		if !same(got, x.want) || e != api.OK {
			t.Errorf("%d: %v, %d, not %v", i, got, e, x.want)
		}
		if !same(a, x.a) || !same(b, x.b) {
			t.Errorf("%d: the automata have become %v and %v", i, x.a, x.b)
		}
	}
}

// P5.4: the cuts of both, even where nothing begins.
func TestBothCuts(t *testing.T) {
	idle := func(cuts ...int) A {
		return A{Cuts: cuts, Next: [][]int{make([]int, len(cuts))}, Accept: []bool{true}}
	}
	for i, x := range []struct{ a, b, want []int }{
		{[]int{0}, []int{0}, []int{0}}, {[]int{0, 5}, []int{0}, []int{0, 5}}, {[]int{0}, []int{0, 255}, []int{0, 255}}, {[]int{0, 5, 9}, []int{0, 5, 9}, []int{0, 5, 9}},
		{[]int{0, 5, 9, 100}, []int{0, 1, 9, 99, 255}, []int{0, 1, 5, 9, 99, 100, 255}}, {[]int{0, 200, 201}, []int{0, 1, 2}, []int{0, 1, 2, 200, 201}}, {lastBytes().Cuts, []int{0, 7}, lastBytes().Cuts},
	} {
		for _, or := range []bool{false, true} {
			if got, e := auto.Both(idle(x.a...), idle(x.b...), or); e != api.OK || !same(got, idle(x.want...)) {
				t.Errorf("%d: %v, %d", i, got, e)
			}
		}
	}
}

// P5.4
func TestBothLimit(t *testing.T) {
	for i, x := range []struct {
		a, b   A
		states int // 0 if there is an error
	}{
		{circle(15), circle(17), 255}, {circle(17), circle(15), 255}, {circle(16), circle(17), 0}, {circle(17), circle(16), 0}, {circle(256), circle(256), 256}, {circle(256), circle(128), 256}, {circle(2), circle(256), 256}, {circle(256), circle(255), 0},
		{circle(255), chain(2), 256}, {circle(256), chain(2), 0}, {chain(2), circle(256), 0}, {chain(256), chain(256), 256}, {chain(256), circle(2), 0}, {chain(255), circle(2), 256}, {lastBytes(), lastBytes(), 256}, {circle(1), circle(256), 256},
	} {
		for _, or := range []bool{false, true} {
			got, e := auto.Both(x.a, x.b, or)
			if x.states == 0 {
				if !zero(got) || e != api.ErrLimit {
					t.Errorf("%d: %d states, %d", i, len(got.Next), e)
				}
			} else if len(got.Next) != x.states || e != api.OK || auto.Valid(got) != api.OK {
				t.Errorf("%d: %d states, %d, not %d", i, len(got.Next), e, x.states)
			}
		}
	}
}

// P5.4 and P5.9, against the chapter's words.
func TestBothAtRandom(t *testing.T) {
	r := rand.New(rand.NewPCG(5, 4))
	for range 2000 {
		a, b := random(r, 9, 6), random(r, 9, 6)
		for _, or := range []bool{false, true} {
			got, e := auto.Both(a, b, or)
			if want := paired(a, b, or); e != api.OK || !same(got, want) {
				t.Fatalf("%v and %v: %v, %d, not %v", a, b, got, e, want)
			}
			if !inOrder(got) {
				t.Fatalf("%v is not in order", got)
			}
			for range 10 {
				s := randomString(r, 12)
				want := takes(a, 0, s) && takes(b, 0, s)
				if or {
					want = takes(a, 0, s) || takes(b, 0, s)
				}
				if ok, e := auto.Accepts(got, s); ok != want || e != api.OK {
					t.Fatalf("%v and %v, %t, with %q: %t, %d", a, b, or, s, ok, e)
				}
			}
		}
	}
}

// paired is what the chapter says of the automaton of pairs, with pairs that are looked for in a list.
func paired(a, b A, or bool) A {
	var p A
	for c := range 256 {
		if slices.Contains(a.Cuts, c) || slices.Contains(b.Cuts, c) {
			p.Cuts = append(p.Cuts, c)
		}
	}
	states := [][2]int{{0, 0}}
	for i := 0; i < len(states); i++ {
		s := states[i]
		var next []int
		for _, c := range p.Cuts {
			q := [2]int{follow(a, s[0], byte(c)), follow(b, s[1], byte(c))}
			if !slices.Contains(states, q) {
				states = append(states, q)
			}
			next = append(next, slices.Index(states, q))
		}
		p.Next = append(p.Next, next)
		one, both := a.Accept[s[0]] || b.Accept[s[1]], a.Accept[s[0]] && b.Accept[s[1]]
		p.Accept = append(p.Accept, or && one || both)
	}
	return p
}

// P5.4
func TestComplement(t *testing.T) {
	loose := A{Cuts: []int{0, 3, 4}, Next: [][]int{{1, 1, 1}, {0, 0, 0}, {2, 1, 0}}, Accept: []bool{true, false, true}}
	for i, x := range []struct{ a, want A }{
		{nothing, everything}, {everything, nothing}, {circle(3), line([]int{1, 2}, 1, 2, 0)}, {line([]int{0, 1}, 1, 1), line(nil, 1, 1)},
		// The same cuts and states, even where nothing begins and what nothing reaches.
		{loose, A{Cuts: []int{0, 3, 4}, Next: [][]int{{1, 1, 1}, {0, 0, 0}, {2, 1, 0}}, Accept: []bool{false, true, false}}},
		{lastBytes(5), func() A {
			a := lastBytes()
			copy(a.Accept, slices.Repeat([]bool{true}, 256))
			a.Accept[5] = false
			return a
		}()},
	} {
		before := copied(x.a)
		got, e := auto.Complement(x.a)
		if !same(got, x.want) || e != api.OK {
			t.Errorf("%d: %v, %d, not %v", i, got, e, x.want)
		}
		if !same(before, x.a) {
			t.Errorf("%d: the automaton has become %v", i, x.a)
		}
		if back, e := auto.Complement(got); !same(back, before) || e != api.OK {
			t.Errorf("%d: and back: %v, %d", i, back, e)
		}
	}
}

// P5.9
func TestSets(t *testing.T) {
	r := rand.New(rand.NewPCG(5, 9))
	made := 0
	for range 1000 {
		x, y := randomRegex(r, 1+r.IntN(12)), randomRegex(r, 1+r.IntN(12))
		a, e := auto.Of(x)
		b, f := auto.Of(y)
		if e != api.OK || f != api.OK {
			continue
		}
		both, e := auto.Both(a, b, false)
		one, f := auto.Both(a, b, true)
		if e != api.OK || f != api.OK {
			continue
		}
		others := must(t)(auto.Complement(a))
		made++
		for range 12 {
			s := randomString(r, 8)
			p, _ := regex.Match(x, s)
			q, _ := regex.Match(y, s)
			for name, w := range map[string]struct {
				a    A
				want bool
			}{"both": {both, p && q}, "one": {one, p || q}, "the others": {others, !p}} {
				if ok, e := auto.Accepts(w.a, s); ok != w.want || e != api.OK {
					t.Fatalf("%v and %v: %s with %q: %t, %d", a, b, name, s, ok, e)
				}
			}
		}
	}
	if made < 900 {
		t.Errorf("only %d were made", made)
	}
}

// R3
func TestSeparateMemory(t *testing.T) {
	r := rand.New(rand.NewPCG(5, 33))
	for range 300 {
		x := randomRegex(r, 1+r.IntN(12))
		if a, e := auto.Of(x); e == api.OK {
			b, _ := auto.Of(x)
			separate(t, "Of", a, b)
		}
		a, b := random(r, 6, 5), random(r, 6, 5)
		a = blown(r, a, 8)
		c := must(t)(auto.Complement(a))
		both := must(t)(auto.Both(a, b, true))
		m := must(t)(auto.Minimal(a))
		again := must(t)(auto.Minimal(m))
		separate(t, "Both, Complement and Minimal", a, b, c, both, m, again)
	}
	row := []int{0, 1}
	shared := A{Cuts: []int{0, 1}, Next: [][]int{row, row}, Accept: []bool{true, false}}
	c := must(t)(auto.Complement(shared))
	m := must(t)(auto.Minimal(shared))
	b := must(t)(auto.Both(shared, shared, false))
	separate(t, "of lists that are one", c, m, b)
	l, _ := auto.Lengths(nothing, 64)
	l[64] = true
	if l, e := auto.Lengths(nothing, 64); e != api.OK || slices.Contains(l, true) {
		t.Errorf("Lengths is %v, %d", l, e)
	}
}
