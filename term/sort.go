package term

import (
	"strings"

	"enthymeme/api"
	"enthymeme/regex"
	"enthymeme/value"
)

const (
	// letters are the bytes with which names begin.
	letters = "abcdefghijklmnopqrstuvwxyz"
	// nameBytes are the bytes of names.
	nameBytes = letters + "0123456789-"
	// lengthBits is the width of lengths of strings, and of places in them.
	lengthBits = 7
	// byteBits is the width of bytes of strings.
	byteBits = 8
)

// kidCounts are the numbers of kids of all operations.
var kidCounts = [api.Char + 1]int{
	api.Not: 1, api.Neg: 1,
	api.And: 2, api.Or: 2, api.Xor: 2, api.Add: 2, api.Mul: 2, api.Udiv: 2, api.Urem: 2, api.Shl: 2, api.Lshr: 2, api.Ashr: 2,
	api.Ult: 2, api.Slt: 2, api.Eq: 2, api.Ite: 3,
	api.Concat: 2, api.Extract: 1, api.Zext: 1, api.Sext: 1,
	api.Select: 2, api.Store: 3, api.Diff: 2,
	api.Len: 1, api.Byte: 1, api.Cat: 2, api.Sub: 3, api.Find: 2, api.Replace: 3, api.In: 1, api.Char: 1,
}

// sorts are those of the kids of a node, in order; an operation does not look at those that it does not have.
type sorts struct{ x, y, z api.Sort }

// SortOf returns the sort of a node over a graph.
func SortOf(g Graph, n api.Node) (api.Sort, api.Errno) {
	if !isFormed(g, n) {
		return api.Sort{}, api.ErrArg
	}
	kids := sortsOfKids(g, n)
	if e := examine(g, n, kids); e != api.OK {
		return api.Sort{}, e
	}
	return kids.result(n), api.OK
}

// isFormed reports whether a node has an operation, and just what the operation has.
func isFormed(g Graph, n api.Node) bool {
	if n.Op < 0 || n.Op >= len(kidCounts) || len(n.Kids) != kidCounts[n.Op] {
		return false
	}
	for i := range kidCounts[n.Op] {
		if !g.has(n.Kids[i]) {
			return false
		}
	}
	return !hasOthers(n)
}

// hasOthers reports whether a node has something in fields that its operation does not have. The sort does not count: each node has one.
func hasOthers(n api.Node) bool {
	switch n.Op {
	case api.Var, api.Text, api.In:
		n.Text = ""
	case api.Num:
		n.U = 0
	case api.Extract:
		n.N, n.M = 0, 0
	case api.Zext, api.Sext, api.Byte:
		n.N = 0
	}
	return n.N != 0 || n.M != 0 || n.U != 0 || n.Text != ""
}

// sortsOfKids returns the sorts of the kids of a node.
func sortsOfKids(g Graph, n api.Node) sorts {
	var l [3]api.Sort
	for i := range kidCounts[n.Op] {
		l[i] = g.Nodes[n.Kids[i]].Sort
	}
	return sorts{l[0], l[1], l[2]}
}

// examine returns the error of a node that has just what its operation has.
func examine(g Graph, n api.Node, kids sorts) api.Errno {
	if n.Op == api.Var && !isName(n.Text) {
		return api.ErrName
	}
	switch n.Op {
	case api.Var, api.Num, api.Zero:
		if e := value.ValidSort(n.Sort); e != api.OK {
			return e
		}
	}
	switch {
	case !kids.fit(n):
		return api.ErrSort
	case !kids.inRange(n):
		return api.ErrRange
	case n.Op == api.In && !isNormal(n.Text):
		return api.ErrForm
	case n.Op == api.Var && isTaken(g, n):
		return api.ErrTwice
	}
	return api.OK
}

// fit reports whether the sorts of kids, and the kind of an own sort, are such as the operation of a node takes.
func (k sorts) fit(n api.Node) bool {
	switch n.Op {
	case api.Var, api.Text:
		return true
	case api.Num:
		return n.Sort.Kind == api.BV
	case api.Zero:
		return isArray(n.Sort)
	case api.Not, api.Neg, api.Extract, api.Zext, api.Sext:
		return k.x.Kind == api.BV
	case api.And, api.Or, api.Xor, api.Add, api.Mul, api.Udiv, api.Urem, api.Shl, api.Lshr, api.Ashr, api.Ult, api.Slt:
		return k.x.Kind == api.BV && k.x == k.y
	case api.Eq:
		return alike(k.x, k.y)
	case api.Ite:
		return k.x == bitVector(1) && alike(k.y, k.z)
	case api.Concat:
		return k.x.Kind == api.BV && k.y.Kind == api.BV
	case api.Select:
		return isArray(k.x) && k.y == bitVector(k.x.Index)
	case api.Store:
		return isArray(k.x) && k.y == bitVector(k.x.Index) && isElement(k.z, k.x)
	case api.Diff:
		return isArray(k.x) && k.x == k.y
	case api.Len, api.Byte, api.In:
		return k.x.Kind == api.Str
	case api.Cat, api.Find:
		return k.x.Kind == api.Str && k.y.Kind == api.Str
	case api.Sub:
		return k.x.Kind == api.Str && k.y == bitVector(lengthBits) && k.z == bitVector(lengthBits)
	case api.Replace:
		return k.x.Kind == api.Str && k.y.Kind == api.Str && k.z.Kind == api.Str
	}
	// Char is left.
	return k.x == bitVector(byteBits)
}

// inRange reports whether the numbers of a node whose kids fit, the size of its text, and sums of sizes are in range.
func (k sorts) inRange(n api.Node) bool {
	switch n.Op {
	case api.Num:
		return n.U>>n.Sort.N == 0
	case api.Text:
		return len(n.Text) <= api.MaxStr
	case api.Concat:
		return k.x.N+k.y.N <= api.MaxWidth
	case api.Extract:
		return 0 <= n.M && n.M <= n.N && n.N < k.x.N
	case api.Zext, api.Sext:
		return 1 <= n.N && n.N <= api.MaxWidth-k.x.N
	case api.Byte:
		return 0 <= n.N && n.N < api.MaxStr
	case api.Cat:
		return k.x.N+k.y.N <= api.MaxStr
	case api.Replace:
		return k.x.N+k.z.N <= api.MaxStr
	}
	return true
}

// result returns the sort of a node without an error.
func (k sorts) result(n api.Node) api.Sort {
	switch n.Op {
	case api.Var, api.Num, api.Zero:
		return n.Sort
	case api.Text:
		return text(len(n.Text))
	case api.Ult, api.Slt, api.Eq, api.In:
		return bitVector(1)
	case api.Ite:
		// Only strings can have different N.
		if k.z.N > k.y.N {
			return k.z
		}
		return k.y
	case api.Concat:
		return bitVector(k.x.N + k.y.N)
	case api.Extract:
		return bitVector(n.N - n.M + 1)
	case api.Zext, api.Sext:
		return bitVector(k.x.N + n.N)
	case api.Select:
		return element(k.x)
	case api.Diff:
		return bitVector(k.x.Index)
	case api.Len, api.Find:
		return bitVector(lengthBits)
	case api.Byte:
		return bitVector(byteBits)
	case api.Cat:
		return text(k.x.N + k.y.N)
	case api.Replace:
		return text(k.x.N + k.z.N)
	case api.Char:
		return text(1)
	}
	return k.x
}

// bitVector returns the sort of bit-vectors of a width.
func bitVector(width int) api.Sort {
	return api.Sort{Kind: api.BV, N: width}
}

// text returns the sort of strings up to a length.
func text(length int) api.Sort {
	return api.Sort{Kind: api.Str, N: length}
}

// isArray reports whether a sort is one of arrays.
func isArray(s api.Sort) bool {
	return s.Kind == api.Arr || s.Kind == api.Ars
}

// element returns the sort of the elements of arrays.
func element(array api.Sort) api.Sort {
	if array.Kind == api.Ars {
		return text(array.N)
	}
	return bitVector(array.N)
}

// isElement reports whether what has a sort can be stored in arrays of another one. As in package value, shorter strings can.
func isElement(s, array api.Sort) bool {
	return s == element(array) || array.Kind == api.Ars && s.Kind == api.Str && s.N < array.N
}

// alike reports whether what has two sorts can be compared, or chosen from: strings can, whatever their greatest lengths are.
func alike(a, b api.Sort) bool {
	return a == b || a.Kind == api.Str && b.Kind == api.Str
}

// isName reports whether a text is a name of a variable.
func isName(s string) bool {
	return 1 <= len(s) && len(s) <= api.MaxName && strings.IndexByte(letters, s[0]) >= 0 && strings.Trim(s, nameBytes) == ""
}

// isNormal reports whether a text is that of a regular expression in normal form.
func isNormal(s string) bool {
	r, _, e := regex.Parse(s)
	if e != api.OK {
		return false
	}
	if r, e = regex.Normal(r); e != api.OK {
		return false
	}
	printed, e := regex.Print(r)
	return e == api.OK && printed == s
}

// isTaken reports whether a variable of a graph has the name of another one, and not its sort.
func isTaken(g Graph, n api.Node) bool {
	for i := range g.Nodes {
		if x := &g.Nodes[i]; x.Op == api.Var && x.Text == n.Text && x.Sort != n.Sort {
			return true
		}
	}
	return false
}
