package auto

import (
	"slices"

	"enthymeme/api"
	"enthymeme/regex"
)

// Of returns the automaton of a regular expression, by derivatives.
func Of(r regex.Regex) (Auto, api.Errno) {
	first, e := regex.Normal(r)
	if e != api.OK {
		return Auto{}, e
	}
	cuts := increasing(append(bounds(first), 0))
	after := func(r regex.Regex, class int) (regex.Regex, api.Errno) {
		return regex.Derive(r, byte(cuts[class]))
	}
	// The states are in normal form and not too large, so there is no error.
	accepted := func(r regex.Regex) bool {
		nullable, _ := regex.Nullable(r)
		return nullable
	}
	return number(cuts, first, encoded, after, accepted)
}

// pair is a state of each of two automata.
type pair struct{ a, b int }

// Both returns the automaton of the strings of both, or of one of both.
func Both(a, b Auto, or bool) (Auto, api.Errno) {
	if e := Valid(a); e != api.OK {
		return Auto{}, e
	}
	if e := Valid(b); e != api.OK {
		return Auto{}, e
	}
	cuts := increasing(slices.Concat(a.Cuts, b.Cuts))
	itself := func(p pair) pair { return p }
	after := func(p pair, class int) (pair, api.Errno) {
		c := cuts[class]
		return pair{a.Next[p.a][classOf(a.Cuts, c)], b.Next[p.b][classOf(b.Cuts, c)]}, api.OK
	}
	accepted := func(p pair) bool {
		if or {
			return a.Accept[p.a] || b.Accept[p.b]
		}
		return a.Accept[p.a] && b.Accept[p.b]
	}
	return number(cuts, pair{}, itself, after, accepted)
}

// Complement returns the automaton of all other strings.
func Complement(a Auto) (Auto, api.Errno) {
	if e := Valid(a); e != api.OK {
		return Auto{}, e
	}
	c := Auto{Cuts: slices.Clone(a.Cuts)}
	for s, next := range a.Next {
		c.Next = append(c.Next, slices.Clone(next))
		c.Accept = append(c.Accept, !a.Accept[s])
	}
	return c, api.OK
}

// number makes an automaton whose states are numbered in the order in which they are reached from the first one. Two states are one if they have the same key.
func number[S any, K comparable](cuts []int, first S, key func(S) K, after func(s S, class int) (S, api.Errno), accepted func(S) bool) (Auto, api.Errno) {
	a := Auto{Cuts: cuts}
	states := []S{first}
	numbers := map[K]int{key(first): 0}
	for s := 0; s < len(states); s++ {
		next := make([]int, 0, len(cuts))
		for class := range cuts {
			x, e := after(states[s], class)
			if e != api.OK {
				return Auto{}, e
			}
			k := key(x)
			n, reached := numbers[k]
			if !reached {
				if n = len(states); n == api.MaxStates {
					return Auto{}, api.ErrLimit
				}
				numbers[k] = n
				states = append(states, x)
			}
			next = append(next, n)
		}
		a.Next = append(a.Next, next)
		a.Accept = append(a.Accept, accepted(states[s]))
	}
	return a, api.OK
}

// encoded returns bytes that are the same exactly for equal expressions: each number of a valid one fits into a byte, and the number of Kids says where they end.
func encoded(r regex.Regex) string {
	return string(appendNodes(nil, r))
}

// appendNodes appends the bytes of an expression.
func appendNodes(b []byte, r regex.Regex) []byte {
	b = append(b, byte(r.Kind), r.Lo, r.Hi, byte(len(r.Kids)))
	for _, k := range r.Kids {
		b = appendNodes(b, k)
	}
	return b
}

// bounds returns where Ranges of an expression begin, and where the bytes after them do.
func bounds(r regex.Regex) []int {
	var l []int
	if r.Kind == regex.Range {
		l = append(l, int(r.Lo))
		if r.Hi < lastByte {
			l = append(l, int(r.Hi)+1)
		}
	}
	for _, k := range r.Kids {
		l = append(l, bounds(k)...)
	}
	return l
}

// increasing brings numbers into increasing order, each once, in place.
func increasing(l []int) []int {
	slices.Sort(l)
	return slices.Compact(l)
}
