package eval

import (
	"slices"
	"strings"

	"enthymeme/api"
	"enthymeme/bits"
	"enthymeme/regex"
	"enthymeme/value"
)

// nowhere is where strings are found that are not there: no string is long enough for this place.
const nowhere = 127

// applied is an operation of a node with the values of its kids, as many as it has.
type applied struct {
	node    api.Node
	x, y, z value.Value
}

// meanings are the functions that compute the values of operations; the sorts of values are those of nodes, and are given to them by apply.
type meanings map[int]func(a applied) value.Value

// apply returns the value of a node without an error that is no variable.
func (m meanings) apply(n api.Node, kids []value.Value) value.Value {
	var l [3]value.Value
	copy(l[:], kids)
	v := m[n.Op](applied{n, l[0], l[1], l[2]})
	v.Sort = n.Sort
	return v
}

// operations returns the meanings of all operations but Var.
func operations() meanings {
	all := meanings{
		api.Num:  func(a applied) value.Value { return number(a.node.U) },
		api.Text: func(a applied) value.Value { return text(a.node.Text) },
		api.Zero: func(applied) value.Value { return value.Value{} },

		api.Eq:  func(a applied) value.Value { return truth(equal(a.x, a.y)) },
		api.Ite: func(a applied) value.Value { return chosen(a.x.U == 1, a.y, a.z) },

		api.Concat:  func(a applied) value.Value { return number(sure(bits.Concat(a.x.U, a.x.Sort.N, a.y.U, a.y.Sort.N))) },
		api.Extract: func(a applied) value.Value { return number(sure(bits.Extract(a.x.U, a.x.Sort.N, a.node.N, a.node.M))) },
		api.Zext:    func(a applied) value.Value { return number(sure(bits.Extend(a.x.U, a.x.Sort.N, a.node.N, false))) },
		api.Sext:    func(a applied) value.Value { return number(sure(bits.Extend(a.x.U, a.x.Sort.N, a.node.N, true))) },

		api.Select: func(a applied) value.Value { return sure(value.Select(a.x, a.y.U)) },
		api.Store:  func(a applied) value.Value { return sure(value.Store(a.x, a.y.U, a.z)) },
		api.Diff:   func(a applied) value.Value { return number(sure(value.Diff(a.x, a.y))) },

		api.Len:     func(a applied) value.Value { return number(uint64(len(a.x.S))) },
		api.Byte:    func(a applied) value.Value { return number(octet(a.x.S, a.node.N)) },
		api.Cat:     func(a applied) value.Value { return text(a.x.S + a.y.S) },
		api.Sub:     func(a applied) value.Value { return text(part(a.x.S, a.y.U, a.z.U)) },
		api.Find:    func(a applied) value.Value { return number(place(a.x.S, a.y.S)) },
		api.Replace: func(a applied) value.Value { return text(strings.Replace(a.x.S, a.y.S, a.z.S, 1)) },
		api.In:      func(a applied) value.Value { return truth(matches(a.node.Text, a.x.S)) },
		api.Char:    func(a applied) value.Value { return text(string([]byte{byte(a.x.U)})) },
	}
	for op := api.Not; op <= api.Neg; op++ {
		all[op] = func(a applied) value.Value { return number(sure(bits.Unary(op, a.x.U, a.x.Sort.N))) }
	}
	for op := api.And; op <= api.Slt; op++ {
		all[op] = func(a applied) value.Value { return number(sure(bits.Binary(op, a.x.U, a.y.U, a.x.Sort.N))) }
	}
	return all
}

// sure returns a result that comes without an error, since sorts and ranges were examined.
func sure[R any](r R, _ api.Errno) R {
	return r
}

// number returns the value with a number.
func number(u uint64) value.Value {
	return value.Value{U: u}
}

// text returns the value with a string.
func text(s string) value.Value {
	return value.Value{S: s}
}

// truth returns the value of a truth value.
func truth(b bool) value.Value {
	if b {
		return number(1)
	}
	return number(0)
}

// equal reports whether two values are the same but for their sorts, which strings of the same bytes need not share. What a value does not have is 0 or empty in both; the entries of an array are determined by its elements.
func equal(x, y value.Value) bool {
	return x.U == y.U && x.S == y.S && slices.Equal(x.Map, y.Map)
}

// chosen returns a copy of one of two values.
func chosen(first bool, y, z value.Value) value.Value {
	if first {
		return copied(y)
	}
	return copied(z)
}

// octet returns a byte of a string, or 0 after its end.
func octet(s string, at int) uint64 {
	if at < len(s) {
		return uint64(s[at])
	}
	return 0
}

// part returns the bytes of a string from a place on, at most so many.
func part(s string, from, most uint64) string {
	rest := s[min(from, uint64(len(s))):]
	return rest[:min(most, uint64(len(rest)))]
}

// place returns the first place where a string has another one.
func place(s, other string) uint64 {
	if at := strings.Index(s, other); at >= 0 {
		return uint64(at)
	}
	return nowhere
}

// matches reports whether a string is one of those of the text of a regular expression.
func matches(expression, s string) bool {
	r, _, _ := regex.Parse(expression)
	return sure(regex.Match(r, s))
}
