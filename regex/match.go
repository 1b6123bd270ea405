package regex

import "enthymeme/api"

// places is a set of positions of a string: the bit i, counted through both words, is set if the position i is one of them. A string of the greatest length has one position more than a word has bits.
type places [2]uint64

// Match reports whether s is one of the strings of r.
func Match(r Regex, s string) (bool, api.Errno) {
	if e := Valid(r); e != api.OK {
		return false, e
	}
	if len(s) > api.MaxStr {
		return false, api.ErrLimit
	}
	return ends(r, s)[0].has(len(s)), api.OK
}

// ends returns, for each position of s, where a string of r that begins there can end. Derivatives would say the same, but could grow without a limit.
func ends(r Regex, s string) []places {
	var kids [][]places
	for _, k := range r.Kids {
		kids = append(kids, ends(k, s))
	}
	all := make([]places, len(s)+1)
	for i := range all {
		all[i] = endsFrom(r, kids, s, i)
	}
	return all
}

// endsFrom returns where a string of r that begins at the position i of s can end, by the ends of its Kids.
func endsFrom(r Regex, kids [][]places, s string, i int) places {
	var p places
	switch r.Kind {
	case Empty:
		p = only(i)
	case Range:
		if i < len(s) && r.contains(s[i]) {
			p = only(i + 1)
		}
	case Cat:
		p = only(i)
		for _, k := range kids {
			p = p.then(k)
		}
	case Alt:
		for _, k := range kids {
			p = p.or(k[i])
		}
	case All:
		p = between(i, len(s))
		for _, k := range kids {
			p = p.and(k[i])
		}
	case Not:
		p = between(i, len(s)).without(kids[0][i])
	case Star:
		p = only(i).often(kids[0])
	}
	return p
}

// only returns the set of one position.
func only(i int) places {
	return between(i, i)
}

// between returns the set of the positions from first to last.
func between(first, last int) places {
	var p places
	for i := first; i <= last; i++ {
		p[i/64] |= 1 << (i % 64)
	}
	return p
}

// has reports whether a position is one of the set.
func (p places) has(i int) bool {
	return p[i/64]>>(i%64)&1 == 1
}

// or returns the positions of one of both sets.
func (p places) or(q places) places {
	return places{p[0] | q[0], p[1] | q[1]}
}

// and returns the positions of both sets.
func (p places) and(q places) places {
	return places{p[0] & q[0], p[1] & q[1]}
}

// without returns the positions that are not in q.
func (p places) without(q places) places {
	return places{p[0] &^ q[0], p[1] &^ q[1]}
}

// then returns where a string that begins at a position of the set can end.
func (p places) then(ends []places) places {
	var q places
	for i, e := range ends {
		if p.has(i) {
			q = q.or(e)
		}
	}
	return q
}

// often returns where any number of strings can end of which the first one begins at a position of the set. No string ends ahead of its beginning: each position is examined after all have been that lead to it.
func (p places) often(ends []places) places {
	for i, e := range ends {
		if p.has(i) {
			p = p.or(e)
		}
	}
	return p
}
