package value_test

import (
	"math"
	"math/rand/v2"
	"slices"
	"strings"
	"testing"

	"enthymeme/api"
	"enthymeme/value"
)

// The example of the chapter.
func TestExample(t *testing.T) {
	empty := must[V](t)(value.Zero(S{Kind: api.Arr, N: 8, Index: 4}))
	a := must[V](t)(value.Store(empty, 3, bv(8, 5)))
	if !same(a, arr(8, 4, E{3, 5, ""})) {
		t.Fatalf("Store of 5 at the index 3 is %v", a)
	}
	for index, want := range map[uint64]uint64{3: 5, 2: 0} {
		if v := must[V](t)(value.Select(a, index)); !same(v, bv(8, want)) {
			t.Errorf("Select at %d is %v", index, v)
		}
	}
	if b := must[V](t)(value.Store(a, 3, bv(8, 0))); value.Compare(b, empty) != 0 || len(b.Map) != 0 {
		t.Errorf("Store of 0 at the index 3 is %v", b)
	}
	if i := must[uint64](t)(value.Diff(a, empty)); i != 3 {
		t.Errorf("Diff is %d", i)
	}
}

// P6.3
func TestSelect(t *testing.T) {
	long := strings.Repeat("\x00", 64)
	a := arr(7, 3, E{0, 127, ""}, E{2, 1, ""}, E{7, 9, ""})
	b := ars(64, 16, E{1, 0, "ab"}, E{2, 0, long}, E{65535, 0, "\xff"})
	wide := arr(64, 16, E{1, math.MaxUint64, ""}, E{32768, 5, ""})
	for i, x := range []struct {
		a     V
		index uint64
		want  V
		e     api.Errno
	}{
		{a, 0, bv(7, 127), api.OK}, {a, 1, bv(7, 0), api.OK}, {a, 2, bv(7, 1), api.OK}, {a, 3, bv(7, 0), api.OK}, {a, 6, bv(7, 0), api.OK}, {a, 7, bv(7, 9), api.OK},
		{a, 8, V{}, api.ErrRange}, {a, math.MaxUint64, V{}, api.ErrRange}, {a, 1 << 32, V{}, api.ErrRange},
		{b, 0, str(64, ""), api.OK}, {b, 1, str(64, "ab"), api.OK}, {b, 2, str(64, long), api.OK}, {b, 3, str(64, ""), api.OK}, {b, 65534, str(64, ""), api.OK}, {b, 65535, str(64, "\xff"), api.OK},
		{b, 65536, V{}, api.ErrRange}, {b, 65537, V{}, api.ErrRange},
		{wide, 1, bv(64, math.MaxUint64), api.OK}, {wide, 32768, bv(64, 5), api.OK}, {wide, 65535, bv(64, 0), api.OK}, {wide, 65536, V{}, api.ErrRange},
		{arr(1, 1), 0, bv(1, 0), api.OK}, {arr(1, 1), 1, bv(1, 0), api.OK}, {arr(1, 1), 2, V{}, api.ErrRange},
		{ars(0, 1), 1, str(0, ""), api.OK}, {ars(0, 1), 2, V{}, api.ErrRange},
		{bv(8, 1), 0, V{}, api.ErrSort}, {str(8, "a"), 0, V{}, api.ErrSort}, {bv(8, 1), 1 << 20, V{}, api.ErrSort}, {str(8, ""), math.MaxUint64, V{}, api.ErrSort},
		// The error of Valid comes before that of the index.
		{arr(8, 1, E{2, 1, ""}), 2, V{}, api.ErrArg}, {arr(8, 17), 1 << 17, V{}, api.ErrSort}, {bv(1, 2), 0, V{}, api.ErrArg},
	} {
		from, changed := roomy(x.a)
		if v, e := value.Select(from, x.index); !same(v, x.want) || e != x.e {
			t.Errorf("%d: %v, %d, not %v, %d", i, v, e, x.want, x.e)
		}
		if changed() {
			t.Errorf("%d: the array has become %v", i, from)
		}
	}
	for index := 1; index <= 16; index++ {
		last := power(index) - 1
		for _, a := range []V{arr(8, index, E{last, 200, ""}), ars(8, index, E{last, 0, "ab"})} {
			if v, e := value.Select(a, last); !same(v, element(a, last)) || e != api.OK {
				t.Errorf("%d bits: the last element is %v, %d", index, v, e)
			}
			if v, e := value.Select(a, last+1); !zero(v) || e != api.ErrRange {
				t.Errorf("%d bits: the element after the last is %v, %d", index, v, e)
			}
		}
	}
	for _, a := range []V{full(api.Arr), full(api.Ars)} {
		for _, index := range []uint64{0, 1, 2, 255, 32767, 32768, 65534, 65535} {
			if v, e := value.Select(a, index); !same(v, element(a, index)) || e != api.OK {
				t.Errorf("kind %d: the element %d of 65536 is %v, %d", a.Sort.Kind, index, v, e)
			}
		}
	}
}

// P6.4
func TestStore(t *testing.T) {
	a := arr(7, 3, E{0, 127, ""}, E{2, 1, ""}, E{7, 9, ""})
	b := ars(4, 16, E{1, 0, "ab"}, E{65535, 0, "\xff"})
	for i, x := range []struct {
		a     V
		index uint64
		v     V
		want  V
	}{
		{a, 0, bv(7, 1), arr(7, 3, E{0, 1, ""}, E{2, 1, ""}, E{7, 9, ""})},
		{a, 2, bv(7, 5), arr(7, 3, E{0, 127, ""}, E{2, 5, ""}, E{7, 9, ""})},
		{a, 7, bv(7, 127), arr(7, 3, E{0, 127, ""}, E{2, 1, ""}, E{7, 127, ""})},
		{a, 0, bv(7, 0), arr(7, 3, E{2, 1, ""}, E{7, 9, ""})},
		{a, 2, bv(7, 0), arr(7, 3, E{0, 127, ""}, E{7, 9, ""})},
		{a, 7, bv(7, 0), arr(7, 3, E{0, 127, ""}, E{2, 1, ""})},
		{a, 1, bv(7, 3), arr(7, 3, E{0, 127, ""}, E{1, 3, ""}, E{2, 1, ""}, E{7, 9, ""})},
		{a, 6, bv(7, 3), arr(7, 3, E{0, 127, ""}, E{2, 1, ""}, E{6, 3, ""}, E{7, 9, ""})},
		{a, 1, bv(7, 0), a}, {a, 6, bv(7, 0), a}, {a, 2, bv(7, 1), a},
		{arr(7, 3, E{1, 1, ""}), 0, bv(7, 2), arr(7, 3, E{0, 2, ""}, E{1, 1, ""})},
		{arr(7, 3, E{1, 1, ""}), 7, bv(7, 2), arr(7, 3, E{1, 1, ""}, E{7, 2, ""})},
		{arr(7, 3, E{1, 1, ""}), 1, bv(7, 0), arr(7, 3)},
		{arr(1, 1), 1, bv(1, 1), arr(1, 1, E{1, 1, ""})},
		{arr(1, 1), 1, bv(1, 0), arr(1, 1)},
		{arr(64, 16), 65535, bv(64, math.MaxUint64), arr(64, 16, E{65535, math.MaxUint64, ""})},
		{b, 1, str(4, "cdef"), ars(4, 16, E{1, 0, "cdef"}, E{65535, 0, "\xff"})},
		{b, 1, str(4, ""), ars(4, 16, E{65535, 0, "\xff"})},
		{b, 65535, str(4, ""), ars(4, 16, E{1, 0, "ab"})},
		{b, 2, str(4, "\x00"), ars(4, 16, E{1, 0, "ab"}, E{2, 0, "\x00"}, E{65535, 0, "\xff"})},
		{b, 2, str(4, ""), b},
		// Strings of sorts with a lesser N.
		{b, 1, str(3, "xyz"), ars(4, 16, E{1, 0, "xyz"}, E{65535, 0, "\xff"})},
		{b, 0, str(1, "x"), ars(4, 16, E{0, 0, "x"}, E{1, 0, "ab"}, E{65535, 0, "\xff"})},
		{b, 1, str(0, ""), ars(4, 16, E{65535, 0, "\xff"})},
		{b, 1, str(2, "ab"), b},
		{ars(0, 1), 0, str(0, ""), ars(0, 1)},
	} {
		from, changed := roomy(x.a)
		got, e := value.Store(from, x.index, x.v)
		if !same(got, x.want) || e != api.OK {
			t.Errorf("%d: %v, %d, not %v", i, got, e, x.want)
		}
		// What is returned has memory of its own, also behind its last entry.
		for k := range got.Map {
			got.Map[k] = E{99, 99, "99"}
		}
		_ = append(got.Map, E{99, 99, "99"})
		if changed() {
			t.Errorf("%d: the array has become %v", i, from)
		}
	}
}

// P6.4
func TestStoreErrors(t *testing.T) {
	a, b := arr(7, 3, E{2, 1, ""}), ars(4, 3, E{2, 0, "ab"})
	off := V{Sort: S{Kind: api.Arr, N: 7, Index: 3}, Map: []E{{Index: 8, U: 1}}}
	for i, x := range []struct {
		a     V
		index uint64
		v     V
		e     api.Errno
	}{
		// That of a, then that of v, then the sorts, then the index.
		{off, 8, bv(7, 128), api.ErrArg}, {off, 8, bv(0, 0), api.ErrArg}, {arr(0, 3), 8, bv(7, 128), api.ErrSort}, {a, 8, bv(7, 128), api.ErrArg}, {a, 8, bv(65, 0), api.ErrSort}, {bv(7, 1), 8, bv(7, 128), api.ErrArg}, {a, 8, bv(6, 64), api.ErrArg},
		{bv(7, 1), 0, bv(7, 1), api.ErrSort}, {str(4, "a"), 0, str(4, "a"), api.ErrSort}, {str(4, "a"), 0, bv(7, 1), api.ErrSort}, {bv(7, 1), math.MaxUint64, bv(7, 1), api.ErrSort}, {bv(7, 1), 0, a, api.ErrSort},
		{a, 0, bv(6, 1), api.ErrSort}, {a, 0, bv(8, 1), api.ErrSort}, {a, 0, bv(6, 0), api.ErrSort}, {a, 0, str(7, ""), api.ErrSort}, {a, 0, str(7, "a"), api.ErrSort}, {a, 0, a, api.ErrSort}, {a, 0, arr(7, 3), api.ErrSort}, {a, 0, ars(7, 3), api.ErrSort}, {a, 8, bv(6, 1), api.ErrSort},
		{b, 0, str(5, "a"), api.ErrSort}, {b, 0, str(5, ""), api.ErrSort}, {b, 0, str(64, ""), api.ErrSort}, {b, 0, bv(4, 0), api.ErrSort}, {b, 0, bv(4, 1), api.ErrSort}, {b, 0, bv(1, 0), api.ErrSort}, {b, 0, b, api.ErrSort}, {b, 0, ars(4, 3), api.ErrSort}, {b, 0, arr(4, 3), api.ErrSort}, {b, 8, str(5, "a"), api.ErrSort},
		{ars(0, 1), 0, str(1, ""), api.ErrSort}, {ars(0, 1), 0, bv(1, 0), api.ErrSort},
		{a, 8, bv(7, 1), api.ErrRange}, {a, 8, bv(7, 0), api.ErrRange}, {a, math.MaxUint64, bv(7, 1), api.ErrRange}, {b, 8, str(4, "a"), api.ErrRange}, {b, 8, str(3, ""), api.ErrRange}, {arr(1, 1), 2, bv(1, 1), api.ErrRange}, {arr(1, 16), 65536, bv(1, 1), api.ErrRange}, {ars(0, 16), 65536, str(0, ""), api.ErrRange},
	} {
		if v, e := value.Store(x.a, x.index, x.v); !zero(v) || e != x.e {
			t.Errorf("%d: %v, %d, not %d", i, v, e, x.e)
		}
	}
}

// P6.5
func TestDiff(t *testing.T) {
	one := func(i uint64) E { return E{i, 1, ""} }
	for i, x := range []struct {
		a, b V
		want uint64
	}{
		{arr(8, 4), arr(8, 4), 0}, {ars(8, 4), ars(8, 4), 0}, {ars(0, 4), ars(0, 4), 0},
		{arr(8, 4, one(3)), arr(8, 4, one(3)), 0}, {arr(8, 4, one(0)), arr(8, 4), 0}, {arr(8, 4, one(3)), arr(8, 4), 3}, {arr(8, 4, one(15)), arr(8, 4), 15},
		{arr(8, 4, one(3)), arr(8, 4, E{3, 2, ""}), 3}, {arr(8, 4, one(3)), arr(8, 4, one(4)), 3}, {arr(8, 4, one(3), one(4)), arr(8, 4, one(3)), 4},
		{arr(8, 4, one(3), one(4)), arr(8, 4, one(4)), 3}, {arr(8, 4, one(1), one(4)), arr(8, 4, one(1), one(5)), 4}, {arr(8, 4, one(1), one(4), one(5)), arr(8, 4, one(1), one(5)), 4},
		{arr(8, 4, one(1), one(4), one(9)), arr(8, 4, one(1), one(4), E{9, 2, ""}), 9}, {arr(8, 4, one(1), one(4), one(9)), arr(8, 4, one(2), one(4), E{9, 2, ""}), 1},
		{arr(8, 4, E{1, 9, ""}, one(4)), arr(8, 4, one(1), one(2)), 1}, {arr(8, 4, one(5), one(6)), arr(8, 4, one(7), one(8)), 5},
		{arr(64, 16, one(65535)), arr(64, 16, E{65535, math.MaxUint64, ""}), 65535},
		{ars(8, 4, E{3, 0, "a"}), ars(8, 4, E{3, 0, "b"}), 3}, {ars(8, 4, E{3, 0, "a"}), ars(8, 4, E{3, 0, "aa"}), 3}, {ars(8, 4, E{3, 0, "a"}), ars(8, 4, E{2, 0, "a"}), 2}, {ars(8, 4, E{3, 0, "a"}, E{6, 0, "c"}), ars(8, 4, E{3, 0, "a"}), 6}, {ars(8, 4, E{3, 0, "a"}, E{6, 0, "c"}), ars(8, 4, E{3, 0, "a"}, E{6, 0, "c"}), 0}, {ars(8, 4, E{3, 0, "a"}), ars(8, 4, E{3, 0, "a\x00"}), 3},
		{full(api.Arr), full(api.Arr), 0}, {full(api.Ars), ars(64, 16, full(api.Ars).Map[:65535]...), 65535}, {full(api.Arr), arr(64, 16, full(api.Arr).Map[1:]...), 0}, {full(api.Arr), arr(64, 16, slices.Delete(full(api.Arr).Map, 40000, 40001)...), 40000},
	} {
		a, changedA := roomy(x.a)
		b, changedB := roomy(x.b)
		if n, e := value.Diff(a, b); n != x.want || e != api.OK {
			t.Errorf("%d: %d, %d, not %d", i, n, e, x.want)
		}
		if n, e := value.Diff(b, a); n != x.want || e != api.OK {
			t.Errorf("%d: the other way round %d, %d, not %d", i, n, e, x.want)
		}
		if n, e := value.Diff(a, a); n != 0 || e != api.OK {
			t.Errorf("%d: with itself %d, %d", i, n, e)
		}
		if changedA() || changedB() {
			t.Errorf("%d: an array has been changed", i)
		}
	}
}

// P6.5
func TestDiffErrors(t *testing.T) {
	off := arr(8, 4, E{16, 1, ""})
	for i, x := range []struct {
		a, b V
		e    api.Errno
	}{
		{off, arr(0, 4), api.ErrArg}, {arr(0, 4), off, api.ErrSort}, {arr(8, 4), off, api.ErrArg}, {bv(8, 1), off, api.ErrArg}, {arr(9, 4), off, api.ErrArg}, {off, off, api.ErrArg},
		{bv(8, 1), bv(8, 1), api.ErrSort}, {bv(8, 1), bv(8, 2), api.ErrSort}, {str(8, "a"), str(8, "a"), api.ErrSort}, {str(8, "a"), str(8, "b"), api.ErrSort}, {bv(8, 1), arr(8, 4), api.ErrSort}, {arr(8, 4), bv(8, 1), api.ErrSort}, {arr(8, 4), bv(4, 1), api.ErrSort}, {str(8, "a"), ars(8, 4), api.ErrSort}, {ars(8, 4), str(8, "a"), api.ErrSort},
		{arr(8, 4), arr(9, 4), api.ErrSort}, {arr(8, 4), arr(8, 5), api.ErrSort}, {ars(8, 4), ars(7, 4), api.ErrSort}, {ars(8, 4), ars(8, 3), api.ErrSort}, {arr(8, 4), ars(8, 4), api.ErrSort}, {ars(8, 4), arr(8, 4), api.ErrSort}, {arr(8, 4, E{1, 1, ""}), arr(9, 4), api.ErrSort},
	} {
		if n, e := value.Diff(x.a, x.b); n != 0 || e != x.e {
			t.Errorf("%d: %d, %d, not %d", i, n, e, x.e)
		}
	}
}

// smallArrays returns all arrays of each small sort of arrays.
func smallArrays() [][]V {
	var all [][]V
	for _, s := range smallSorts() {
		if isArray(s) {
			all = append(all, every(s))
		}
	}
	return all
}

// P6.3, P6.4 and P6.7: all arrays of small sorts, with all indices and elements, against the chapter's words.
func TestStoreEverywhere(t *testing.T) {
	for _, arrays := range smallArrays() {
		for _, a := range arrays {
			size := power(a.Sort.Index)
			for i := range size {
				if v, e := value.Select(a, i); !same(v, element(a, i)) || e != api.OK {
					t.Fatalf("%v at %d is %v, %d", a, i, v, e)
				}
				for _, v := range every(element(a, 0).Sort) {
					want := elements(a.Sort, func(k uint64) V {
						if k == i {
							return v
						}
						return element(a, k)
					})
					b, e := value.Store(a, i, v)
					if !same(b, want) || e != api.OK || value.Valid(b) != api.OK {
						t.Fatalf("%v with %v at %d is %v, %d", a, v, i, b, e)
					}
					for k := range size {
						if x := must[V](t)(value.Select(b, k)); !same(x, element(want, k)) {
							t.Fatalf("%v with %v at %d has %v at %d", a, v, i, x, k)
						}
					}
				}
			}
			if v, e := value.Select(a, size); !zero(v) || e != api.ErrRange {
				t.Fatalf("%v at %d is %v, %d", a, size, v, e)
			}
		}
	}
}

// P6.5 and P6.8: all pairs of arrays of small sorts.
func TestExtensionality(t *testing.T) {
	for _, arrays := range smallArrays() {
		for _, a := range arrays {
			for _, b := range arrays {
				var differ []uint64
				for i := range power(a.Sort.Index) {
					if !same(element(a, i), element(b, i)) {
						differ = append(differ, i)
					}
				}
				want := append(differ, 0)[0]
				at, e := value.Diff(a, b)
				if at != want || e != api.OK {
					t.Fatalf("%v and %v: %d, %d, not %d", a, b, at, e, want)
				}
				x, y := must[V](t)(value.Select(a, at)), must[V](t)(value.Select(b, at))
				equal := len(differ) == 0
				if (value.Compare(a, b) == 0) != equal || (value.Compare(x, y) == 0) != equal {
					t.Fatalf("%v and %v with %v and %v at %d, but they differ at %d", a, b, x, y, at, differ)
				}
			}
		}
	}
}

// shorter returns a value of the same element whose sort has perhaps a lesser N.
func shorter(r *rand.Rand, v V) V {
	if v.Sort.Kind == api.Str {
		v.Sort.N = len(v.S) + r.IntN(v.Sort.N-len(v.S)+1)
	}
	return v
}

// P6.7 and P6.8: arrays of all sorts.
func TestLaws(t *testing.T) {
	r := rand.New(rand.NewPCG(6, 7))
	store := func(a V, i uint64, v V) V { return must[V](t)(value.Store(a, i, v)) }
	get := func(a V, i uint64) V { return must[V](t)(value.Select(a, i)) }
	for range 3000 {
		a := randomArray(r)
		size := power(a.Sort.Index)
		i, k := r.Uint64N(size), r.Uint64N(size)
		for i == k {
			k = r.Uint64N(size)
		}
		if len(a.Map) > 0 && r.IntN(2) == 0 {
			k, i = i, a.Map[r.IntN(len(a.Map))].Index
			if i == k {
				continue
			}
		}
		sort := element(a, 0).Sort
		v, w := shorter(r, randomValue(r, sort)), shorter(r, randomValue(r, sort))
		b := store(a, i, v)
		if value.Valid(b) != api.OK {
			t.Fatalf("%v, of %v with %v at %d, is not valid", b, a, v, i)
		}
		if x := get(b, i); x.Sort != sort || x.U != v.U || x.S != v.S {
			t.Fatalf("%v with %v at %d has %v there", a, v, i, x)
		}
		if x := get(b, k); !same(x, get(a, k)) {
			t.Fatalf("%v with %v at %d has %v at %d", a, v, i, x, k)
		}
		if again := store(b, i, get(b, i)); !same(again, b) {
			t.Fatalf("storing what is there makes %v of %v", again, b)
		}
		if last := store(b, i, w); !same(last, store(a, i, w)) {
			t.Fatalf("%v, then %v at %d of %v: %v", v, w, i, a, last)
		}
		if back := store(b, i, get(a, i)); !same(back, a) {
			t.Fatalf("%v comes back as %v", a, back)
		}
		if x, y := store(b, k, w), store(store(a, k, w), i, v); !same(x, y) {
			t.Fatalf("%v at %d and %v at %d of %v: %v or %v", v, i, w, k, a, x, y)
		}
		at := must[uint64](t)(value.Diff(a, b))
		if changed := !same(get(b, i), get(a, i)); changed && at != i || !changed && at != 0 {
			t.Fatalf("Diff of %v and %v is %d", a, b, at)
		}
	}
}

// P6.8: pairs of arrays that differ at random.
func TestDiffAtRandom(t *testing.T) {
	r := rand.New(rand.NewPCG(6, 8))
	for range 2000 {
		a := randomArray(r)
		b := copied(a)
		for range r.IntN(4) {
			if len(b.Map) > 0 && r.IntN(2) == 0 {
				n := r.IntN(len(b.Map))
				b.Map = slices.Delete(b.Map, n, n+1)
			} else {
				b = must[V](t)(value.Store(b, r.Uint64N(power(b.Sort.Index)), randomValue(r, element(b, 0).Sort)))
			}
		}
		at := must[uint64](t)(value.Diff(a, b))
		want, found := uint64(0), false
		for i := range power(a.Sort.Index) {
			if !found && !same(element(a, i), element(b, i)) {
				want, found = i, true
			}
		}
		if at != want || found != (value.Compare(a, b) != 0) {
			t.Fatalf("%v and %v: %d, not %d", a, b, at, want)
		}
	}
}
