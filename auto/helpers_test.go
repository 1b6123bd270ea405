package auto_test

import (
	"math/rand/v2"
	"slices"
	"testing"

	"enthymeme/api"
	"enthymeme/auto"
	"enthymeme/regex"
)

type A = auto.Auto

// Automata of one state.
var (
	nothing    = A{Cuts: []int{0}, Next: [][]int{{0}}, Accept: []bool{false}}
	everything = A{Cuts: []int{0}, Next: [][]int{{0}}, Accept: []bool{true}}
)

// read returns the expression of a text.
func read(t *testing.T, s string) regex.Regex {
	t.Helper()
	r, at, e := regex.Parse(s)
	if e != api.OK {
		t.Fatalf("%s: error %d at %d", s, e, at)
	}
	return r
}

// of returns the automaton of the text of an expression.
func of(t *testing.T, s string) A {
	t.Helper()
	return must(t)(auto.Of(read(t, s)))
}

// must returns what takes a result that has to come without an error.
func must(t *testing.T) func(a A, e api.Errno) A {
	t.Helper()
	return func(a A, e api.Errno) A {
		t.Helper()
		if e != api.OK {
			t.Fatalf("error %d", e)
		}
		return a
	}
}

// line returns an automaton of one class, with the states that come next; only those in accept are accepted.
func line(accept []int, next ...int) A {
	a := A{Cuts: []int{0}, Accept: make([]bool, len(next))}
	for _, n := range next {
		a.Next = append(a.Next, []int{n})
	}
	for _, s := range accept {
		a.Accept[s] = true
	}
	return a
}

// circle returns an automaton that accepts the strings whose length can be divided by n.
func circle(n int) A {
	next := make([]int, n)
	for s := range next {
		next[s] = (s + 1) % n
	}
	return line([]int{0}, next...)
}

// chain returns an automaton of n states that accepts the strings of at least n-1 bytes.
func chain(n int) A {
	next := make([]int, n)
	for s := range next {
		next[s] = min(s+1, n-1)
	}
	return line([]int{n - 1}, next...)
}

// lastBytes returns an automaton whose state is the last byte of a string; only those in accept are accepted.
func lastBytes(accept ...int) A {
	a := A{Accept: make([]bool, 256)}
	for c := range 256 {
		a.Cuts = append(a.Cuts, c)
	}
	for range 256 {
		a.Next = append(a.Next, slices.Clone(a.Cuts))
	}
	for _, s := range accept {
		a.Accept[s] = true
	}
	return a
}

// same compares automata.
func same(a, b A) bool {
	return slices.Equal(a.Cuts, b.Cuts) && slices.EqualFunc(a.Next, b.Next, slices.Equal) && slices.Equal(a.Accept, b.Accept)
}

// zero reports whether an automaton is what comes with an error.
func zero(a A) bool {
	return len(a.Cuts) == 0 && len(a.Next) == 0 && len(a.Accept) == 0
}

// copied returns an automaton that shares no memory.
func copied(a A) A {
	c := A{Cuts: slices.Clone(a.Cuts), Accept: slices.Clone(a.Accept)}
	for _, next := range a.Next {
		c.Next = append(c.Next, slices.Clone(next))
	}
	return c
}

// follow is what the chapter says of the state after a byte, word by word.
func follow(a A, s int, c byte) int {
	class := 0
	for k, cut := range a.Cuts {
		if cut <= int(c) {
			class = k
		}
	}
	return a.Next[s][class]
}

// end is what the chapter says of the state after a string from a state.
func end(a A, from int, s string) int {
	if s == "" {
		return from
	}
	return follow(a, end(a, from, s[:len(s)-1]), s[len(s)-1])
}

// takes reports whether a string leads from a state to acceptance.
func takes(a A, from int, s string) bool {
	return a.Accept[end(a, from, s)]
}

// differ reports whether some string leads to acceptance from just one of a state of a and a state of b. All pairs that are reached are examined, for all bytes.
func differ(a A, s int, b A, u int) bool {
	pairs := [][2]int{{s, u}}
	reached := map[[2]int]bool{pairs[0]: true}
	for i := 0; i < len(pairs); i++ {
		p := pairs[i]
		if a.Accept[p[0]] != b.Accept[p[1]] {
			return true
		}
		for c := range 256 {
			if q := [2]int{follow(a, p[0], byte(c)), follow(b, p[1], byte(c))}; !reached[q] {
				reached[q] = true
				pairs = append(pairs, q)
			}
		}
	}
	return false
}

// inOrder reports whether all states are reached, in the order of their numbers.
func inOrder(a A) bool {
	reached := []int{0}
	for i := 0; i < len(reached); i++ {
		for _, n := range a.Next[reached[i]] {
			if !slices.Contains(reached, n) {
				reached = append(reached, n)
			}
		}
	}
	return len(reached) == len(a.Next) && slices.IsSorted(reached)
}

// separate fails the test if parts of results share memory with each other or with an argument: what is written to one of them is read in another.
func separate(t *testing.T, what string, l ...A) {
	t.Helper()
	var lists [][]int
	for _, a := range l {
		lists = append(append(lists, a.Cuts), a.Next...)
	}
	for i, list := range lists {
		for j := range list {
			list[j] = 1000 + i
		}
		_ = append(list, -1)
	}
	for i, list := range lists {
		for _, n := range list {
			if n != 1000+i {
				t.Fatalf("%s: two lists share memory", what)
			}
		}
	}
	for i, a := range l {
		for j := range a.Accept {
			a.Accept[j] = true
		}
		for _, b := range l[:i] {
			for j := range b.Accept {
				b.Accept[j] = false
			}
		}
		if slices.Contains(a.Accept, false) {
			t.Fatalf("%s: two lists of Accept share memory", what)
		}
	}
}

// places are where classes of random automata begin, so that those of two of them often begin at the same byte.
var places = []int{1, 64, 97, 98, 99, 127, 128, 200, 254, 255}

// random returns an automaton with at most the given numbers of states and classes.
func random(r *rand.Rand, states, classes int) A {
	a := A{Cuts: []int{0}}
	for range r.IntN(classes) {
		a.Cuts = append(a.Cuts, places[r.IntN(len(places))])
	}
	slices.Sort(a.Cuts)
	a.Cuts = slices.Compact(a.Cuts)
	n := 1 + r.IntN(states)
	for range n {
		var next []int
		for range a.Cuts {
			next = append(next, r.IntN(n))
		}
		a.Next = append(a.Next, next)
		a.Accept = append(a.Accept, r.IntN(3) == 0)
	}
	return a
}

// blown returns an automaton of n states that accepts the same strings: each of its states is like one of a, which has at most as many, and a few more classes begin where nothing does.
func blown(r *rand.Rand, a A, n int) A {
	like := make([]int, n) // the state 0 is like the state 0
	order := r.Perm(n - 1)
	for s := 1; s < n; s++ {
		if like[s] = r.IntN(len(a.Next)); order[s-1]+1 < len(a.Next) {
			like[s] = order[s-1] + 1 // each state has one that is like it
		}
	}
	b := A{Cuts: slices.Clone(a.Cuts)}
	for range r.IntN(4) {
		b.Cuts = append(b.Cuts, r.IntN(256))
	}
	slices.Sort(b.Cuts)
	b.Cuts = slices.Compact(b.Cuts)
	for s := range n {
		var next []int
		for _, c := range b.Cuts {
			next = append(next, oneLike(r, like, follow(a, like[s], byte(c))))
		}
		b.Next = append(b.Next, next)
		b.Accept = append(b.Accept, a.Accept[like[s]])
	}
	return b
}

// oneLike returns some state that is like the given one.
func oneLike(r *rand.Rand, like []int, state int) int {
	for {
		if s := r.IntN(len(like)); like[s] == state {
			return s
		}
	}
}

// randomString returns a string of few bytes.
func randomString(r *rand.Rand, most int) string {
	var s []byte
	for range r.IntN(most + 1) {
		switch r.IntN(4) {
		case 0:
			s = append(s, byte(r.IntN(256)))
		case 1:
			s = append(s, byte(places[r.IntN(len(places))]-r.IntN(2)))
		default:
			s = append(s, 'a'+byte(r.IntN(2)))
		}
	}
	return string(s)
}

// randomRegex returns a valid expression of at most n nodes (n is from 1 on), with few bytes.
func randomRegex(r *rand.Rand, n int) regex.Regex {
	if n == 1 || r.IntN(8) == 0 {
		lo := byte('a' + r.IntN(2))
		switch r.IntN(10) {
		case 0:
			return regex.Regex{Kind: regex.None}
		case 1:
			return regex.Regex{Kind: regex.Empty}
		case 2:
			lo = byte(r.IntN(256))
			return regex.Regex{Kind: regex.Range, Lo: lo, Hi: lo + byte(r.IntN(256-int(lo)))}
		case 3:
			return regex.Regex{Kind: regex.Range, Hi: 255}
		}
		return regex.Regex{Kind: regex.Range, Lo: lo, Hi: lo + byte(r.IntN(2))}
	}
	x := regex.Regex{Kind: []int{regex.Cat, regex.Cat, regex.Alt, regex.Alt, regex.All, regex.Not, regex.Star}[r.IntN(7)]}
	if x.Kind == regex.Not || x.Kind == regex.Star {
		x.Kids = []regex.Regex{randomRegex(r, n-1)}
		return x
	}
	for left := n - 1; left > 0 && r.IntN(6) > 0; {
		k := randomRegex(r, 1+r.IntN(left))
		x.Kids = append(x.Kids, k)
		left -= nodes(k)
	}
	return x
}

// nodes counts the nodes of an expression.
func nodes(r regex.Regex) int {
	n := 1
	for _, k := range r.Kids {
		n += nodes(k)
	}
	return n
}

// nexts returns the states that come next in an automaton of one class.
func nexts(a A) []int {
	var l []int
	for _, next := range a.Next {
		l = append(l, next[0])
	}
	return l
}
