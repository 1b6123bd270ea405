package value_test

import (
	"maps"
	"math/rand/v2"
	"slices"
	"strings"
	"testing"

	"enthymeme/api"
	"enthymeme/value"
)

type (
	V = value.Value
	E = value.Entry
	S = api.Sort
)

// bv returns a bit-vector of n bits.
func bv(n int, u uint64) V {
	return V{Sort: S{Kind: api.BV, N: n}, U: u}
}

// str returns a string of at most n bytes.
func str(n int, s string) V {
	return V{Sort: S{Kind: api.Str, N: n}, S: s}
}

// arr returns an array of bit-vectors.
func arr(n, index int, entries ...E) V {
	return V{Sort: S{Kind: api.Arr, N: n, Index: index}, Map: entries}
}

// ars returns an array of strings.
func ars(n, index int, entries ...E) V {
	return V{Sort: S{Kind: api.Ars, N: n, Index: index}, Map: entries}
}

// same compares values field by field; no entries are nil or empty.
func same(a, b V) bool {
	return a.Sort == b.Sort && a.U == b.U && a.S == b.S && slices.Equal(a.Map, b.Map)
}

// zero reports whether a value is what comes with an error.
func zero(v V) bool {
	return same(v, V{})
}

// copied returns a value that shares no memory.
func copied(v V) V {
	v.Map = slices.Clone(v.Map)
	return v
}

// roomy returns a value whose entries are followed by others in memory, and a function that reports whether any of these, or of its own, has been changed.
func roomy(v V) (V, func() bool) {
	memory := append(slices.Clone(v.Map), E{Index: 1, U: 2, S: "3"}, E{Index: 4, U: 5, S: "6"})
	before := slices.Clone(memory)
	v.Map = memory[:len(v.Map)]
	return v, func() bool { return !slices.Equal(memory, before) }
}

// must returns what takes a result that has to come without an error.
func must[R any](t *testing.T) func(r R, e api.Errno) R {
	t.Helper()
	return func(r R, e api.Errno) R {
		t.Helper()
		if e != api.OK {
			t.Fatalf("error %d", e)
		}
		return r
	}
}

// isArray reports whether a sort is one of arrays.
func isArray(s S) bool {
	return s.Kind == api.Arr || s.Kind == api.Ars
}

// power is 2^n for n from 0 to 63.
func power(n int) uint64 {
	p := uint64(1)
	for range n {
		p += p
	}
	return p
}

// element is what the chapter says of the element of an array at an index.
func element(a V, index uint64) V {
	kind := api.BV
	if a.Sort.Kind == api.Ars {
		kind = api.Str
	}
	v := V{Sort: S{Kind: kind, N: a.Sort.N}}
	for _, x := range a.Map {
		if x.Index == index {
			v.U, v.S = x.U, x.S
		}
	}
	return v
}

// elements returns an array of a sort with the element that a function says for each index.
func elements(s S, at func(index uint64) V) V {
	a := V{Sort: s}
	for i := range power(s.Index) {
		if v := at(i); v.U != 0 || v.S != "" {
			a.Map = append(a.Map, E{Index: i, U: v.U, S: v.S})
		}
	}
	return a
}

// every returns all values of a sort with few of them; strings consist of the letters a and b.
func every(s S) []V {
	var all []V
	switch s.Kind {
	case api.BV:
		for u := range power(s.N) {
			all = append(all, bv(s.N, u))
		}
		return all
	case api.Str:
		texts := []string{""}
		for i := 0; i < len(texts); i++ {
			all = append(all, str(s.N, texts[i]))
			if len(texts[i]) < s.N {
				texts = append(texts, texts[i]+"a", texts[i]+"b")
			}
		}
		return all
	}
	all = []V{{Sort: s}}
	for i := range power(s.Index) {
		for _, a := range slices.Clone(all) {
			for _, v := range every(element(a, 0).Sort)[1:] {
				b := copied(a)
				b.Map = append(b.Map, E{Index: i, U: v.U, S: v.S})
				all = append(all, b)
			}
		}
	}
	return all
}

// smallSorts have few values.
func smallSorts() []S {
	return []S{
		{Kind: api.BV, N: 1}, {Kind: api.BV, N: 2}, {Kind: api.BV, N: 4},
		{Kind: api.Str, N: 0}, {Kind: api.Str, N: 1}, {Kind: api.Str, N: 3},
		{Kind: api.Arr, N: 1, Index: 1}, {Kind: api.Arr, N: 1, Index: 3}, {Kind: api.Arr, N: 2, Index: 1}, {Kind: api.Arr, N: 2, Index: 2},
		{Kind: api.Ars, N: 0, Index: 1}, {Kind: api.Ars, N: 0, Index: 3}, {Kind: api.Ars, N: 1, Index: 1}, {Kind: api.Ars, N: 1, Index: 2}, {Kind: api.Ars, N: 2, Index: 1},
	}
}

// randomSort returns any valid sort; the ends of all ranges are as likely as what is between them.
func randomSort(r *rand.Rand) S {
	pick := func(least, most int) int {
		switch r.IntN(4) {
		case 0:
			return least
		case 1:
			return most
		}
		return least + r.IntN(most-least+1)
	}
	switch r.IntN(4) {
	case 0:
		return S{Kind: api.BV, N: pick(1, 64)}
	case 1:
		return S{Kind: api.Str, N: pick(0, 64)}
	case 2:
		return S{Kind: api.Arr, N: pick(1, 64), Index: pick(1, 16)}
	}
	return S{Kind: api.Ars, N: pick(0, 64), Index: pick(1, 16)}
}

// randomValue returns a valid value of a sort.
func randomValue(r *rand.Rand, s S) V {
	v := V{Sort: s}
	switch s.Kind {
	case api.BV:
		v.U = r.Uint64() >> (64 - s.N) >> r.IntN(s.N+1)
	case api.Str:
		b := make([]byte, r.IntN(s.N+1))
		for i := range b {
			b[i] = byte(r.Uint32())
		}
		v.S = string(b)
	default:
		elements := map[uint64]V{}
		for range r.IntN(12) {
			elements[r.Uint64N(power(s.Index))] = randomValue(r, element(v, 0).Sort)
		}
		for _, i := range slices.Sorted(maps.Keys(elements)) {
			if x := elements[i]; x.U != 0 || x.S != "" {
				v.Map = append(v.Map, E{Index: i, U: x.U, S: x.S})
			}
		}
	}
	return v
}

// randomArray returns a valid array.
func randomArray(r *rand.Rand) V {
	for {
		if s := randomSort(r); isArray(s) {
			return randomValue(r, s)
		}
	}
}

// full returns an array of 65536 elements that are not 0 or empty.
func full(kind int) V {
	s := S{Kind: kind, N: 64, Index: 16}
	return elements(s, func(i uint64) V {
		if kind == api.Arr {
			return bv(64, ^i)
		}
		return str(64, strings.Repeat(string([]byte{byte(i)}), 1+int(i%64)))
	})
}
