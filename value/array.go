package value

import (
	"cmp"
	"slices"

	"enthymeme/api"
)

// Select returns the element of an array at an index.
func Select(a Value, index uint64) (Value, api.Errno) {
	if e := Valid(a); e != api.OK {
		return Value{}, e
	}
	if !isArray(a.Sort) {
		return Value{}, api.ErrSort
	}
	if index > greatest(a.Sort.Index) {
		return Value{}, api.ErrRange
	}
	x := Entry{Index: index}
	if at, found := find(a.Map, index); found {
		x = a.Map[at]
	}
	return x.element(a.Sort), api.OK
}

// Store returns the array with another element at an index.
func Store(a Value, index uint64, v Value) (Value, api.Errno) {
	if e := cmp.Or(Valid(a), Valid(v)); e != api.OK {
		return Value{}, e
	}
	if !isElement(v.Sort, a.Sort) {
		return Value{}, api.ErrSort
	}
	if index > greatest(a.Sort.Index) {
		return Value{}, api.ErrRange
	}
	at, found := find(a.Map, index)
	before, after := a.Map[:at], a.Map[at:]
	if found {
		after = after[1:]
	}
	var stored []Entry
	if x := (Entry{Index: index, U: v.U, S: v.S}); !x.isEmpty() {
		stored = []Entry{x}
	}
	return Value{Sort: a.Sort, Map: slices.Concat(before, stored, after)}, api.OK
}

// Diff returns the least index at which two arrays differ, or 0.
func Diff(a, b Value) (uint64, api.Errno) {
	if e := cmp.Or(Valid(a), Valid(b)); e != api.OK {
		return 0, e
	}
	if !isArray(a.Sort) || a.Sort != b.Sort {
		return 0, api.ErrSort
	}
	_, equal := compareEntries(a.Map, b.Map)
	x, y := a.Map[equal:], b.Map[equal:]
	switch {
	case len(x) == 0 && len(y) == 0:
		return 0, api.OK
	case len(x) == 0:
		return y[0].Index, api.OK
	case len(y) == 0:
		return x[0].Index, api.OK
	}
	return min(x[0].Index, y[0].Index), api.OK
}

// isArray reports whether a valid sort is one of arrays.
func isArray(s api.Sort) bool {
	return s.Kind == api.Arr || s.Kind == api.Ars
}

// isElement reports whether values of a valid sort can be stored in arrays of another one; shorter strings can, for they need no change.
func isElement(s, array api.Sort) bool {
	switch array.Kind {
	case api.Arr:
		return s.Kind == api.BV && s.N == array.N
	case api.Ars:
		return s.Kind == api.Str && s.N <= array.N
	}
	return false
}

// find returns where the entry with an index is, or where it belongs.
func find(l []Entry, index uint64) (at int, found bool) {
	return slices.BinarySearchFunc(l, index, func(x Entry, index uint64) int {
		return cmp.Compare(x.Index, index)
	})
}
