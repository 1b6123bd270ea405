package wire_test

import (
	"bytes"
	"math"
	"math/bits"
	"math/rand/v2"
	"slices"
	"testing"

	"enthymeme/api"
	"enthymeme/wire"
)

// methods are the letters of the methods: i for Int, u for Uint, b for Bool, t for Text, r for Raw, l for Ints.
const methods = "iubtrl"

// write appends a value by the method of its letter.
func write(w *wire.Writer, method byte, v any) {
	switch method {
	case 'i':
		w.Int(v.(int))
	case 'u':
		w.Uint(v.(uint64))
	case 'b':
		w.Bool(v.(bool))
	case 't':
		w.Text(v.(string))
	case 'r':
		w.Raw(v.([]byte))
	case 'l':
		w.Ints(v.([]int))
	}
}

// read reads a value by the method of its letter.
func read(r *wire.Reader, method byte) any {
	switch method {
	case 'i':
		return r.Int()
	case 'u':
		return r.Uint()
	case 'b':
		return r.Bool()
	case 't':
		return r.Text()
	case 'r':
		return r.Raw()
	}
	return r.Ints()
}

// same compares two values of one method.
func same(a, b any) bool {
	switch x := a.(type) {
	case []byte:
		return bytes.Equal(x, b.([]byte))
	case []int:
		return slices.Equal(x, b.([]int))
	}
	return a == b
}

// number returns a number of any size; each size is as likely as the others.
func number(r *rand.Rand) uint64 {
	return r.Uint64() >> r.IntN(64)
}

// value returns a value for the method of a letter.
func value(r *rand.Rand, method byte) any {
	switch method {
	case 'i':
		return int(number(r)) ^ -r.IntN(2)
	case 'u':
		return number(r)
	case 'b':
		return r.IntN(2) == 1
	case 't':
		return string(value(r, 'r').([]byte))
	case 'r':
		b := make([]byte, r.IntN(6)*r.IntN(40))
		for i := range b {
			b[i] = byte(r.Uint32())
		}
		return b
	}
	l := make([]int, r.IntN(6)*r.IntN(40))
	for i := range l {
		l[i] = value(r, 'i').(int)
	}
	return l
}

// sequence returns a sequence of methods.
func sequence(r *rand.Rand) []byte {
	s := make([]byte, r.IntN(9))
	for i := range s {
		s[i] = methods[r.IntN(len(methods))]
	}
	return s
}

// encoding returns a sequence of methods with values for them and the bytes of a writer that was given these.
func encoding(r *rand.Rand) ([]byte, []any, []byte) {
	var w wire.Writer
	var values []any
	s := sequence(r)
	for _, m := range s {
		v := value(r, m)
		values = append(values, v)
		write(&w, m, v)
	}
	return s, values, w.Done()
}

// P2.6: what is written is read.
func TestRoundTrip(t *testing.T) {
	random := rand.New(rand.NewPCG(5, 6))
	for range 5000 {
		s, values, b := encoding(random)
		r := wire.Read(b)
		for i, m := range s {
			if v := read(r, m); !same(v, values[i]) {
				t.Fatalf("%s %d: read %v, written %v", s, i, v, values[i])
			}
		}
		ends(t, string(s), r, api.OK)
	}
}

// P2.6: the ends of the domains.
func TestRoundTripEdges(t *testing.T) {
	var w wire.Writer
	numbers := []int{0, 1, -1, math.MaxInt, math.MinInt, math.MaxInt32, math.MinInt32}
	for _, n := range numbers {
		w.Int(n)
		w.Uint(uint64(n))
	}
	w.Ints(numbers)
	r := wire.Read(w.Done())
	for _, n := range numbers {
		if a, b := r.Int(), r.Uint(); a != n || b != uint64(n) {
			t.Errorf("%d comes back as %d and %d", n, a, b)
		}
	}
	if l := r.Ints(); !slices.Equal(l, numbers) {
		t.Error("a list comes back as", l)
	}
	ends(t, "the ends of the domains", r, api.OK)
}

// bytesLikely returns bytes of which many are small or go on, so that they often are encodings.
func bytesLikely(r *rand.Rand) []byte {
	b := make([]byte, r.IntN(9))
	for i := range b {
		b[i] = []byte{0, 1, 1, 2, 3, 127, 128, 255, byte(r.Uint32())}[r.IntN(9)]
	}
	return b
}

// P2.7: bytes that are read without an error are those that are written for the values.
func TestOneEncoding(t *testing.T) {
	random := rand.New(rand.NewPCG(7, 8))
	accepted := 0
	for range 200000 {
		b, s := bytesLikely(random), sequence(random)
		r := wire.Read(b)
		var w wire.Writer
		for _, m := range s {
			write(&w, m, read(r, m))
		}
		if r.End() == api.OK {
			accepted += len(b)
			if !bytes.Equal(w.Done(), b) {
				t.Fatalf("%s reads %v and writes %v", s, b, w.Done())
			}
		}
	}
	if accepted < 5000 {
		t.Error("too few bytes were accepted to tell:", accepted)
	}
}

// P2.7: each method alone, for all sequences of up to three bytes that matter.
func TestOneEncodingShort(t *testing.T) {
	some := []byte{0, 1, 2, 3, 126, 127, 128, 129, 130, 254, 255}
	all := [][]byte{nil}
	for from := 0; len(all[from]) < 3; from++ {
		for _, c := range some {
			all = append(all, append(slices.Clone(all[from]), c))
		}
	}
	for _, b := range all {
		for _, m := range []byte(methods) {
			r := wire.Read(b)
			v := read(r, m)
			if r.End() != api.OK {
				continue
			}
			if got := written(func(w *wire.Writer) { write(w, m, v) }); !bytes.Equal(got, b) {
				t.Errorf("%c reads %v from %v and writes %v", m, v, b, got)
			}
		}
	}
}

// P2.8: no proper prefix of an encoding is read.
func TestPrefixes(t *testing.T) {
	random := rand.New(rand.NewPCG(9, 10))
	for range 300 {
		s, _, b := encoding(random)
		for n := range b {
			r := wire.Read(b[:n])
			for _, m := range s {
				read(r, m)
			}
			if e := r.End(); e != api.ErrMore {
				t.Fatalf("%s of %d bytes of %v ends with %d", s, n, b, e)
			}
		}
	}
}

// P2.8: a byte for every 7 bits, at least one.
func TestVarintLength(t *testing.T) {
	for _, n := range []uint64{0, 1} {
		if b := written(func(w *wire.Writer) { w.Uint(n) }); len(b) != 1 {
			t.Errorf("the varint of %d is %v", n, b)
		}
	}
	for size := 1; size <= 64; size++ {
		least, greatest := uint64(1)<<(size-1), uint64(math.MaxUint64)>>(64-size)
		for _, n := range []uint64{least, least | 1, greatest} {
			want := (bits.Len64(n) + 6) / 7
			if b := written(func(w *wire.Writer) { w.Uint(n) }); len(b) != want {
				t.Errorf("the varint of %d has %d bytes, want %d", n, len(b), want)
			}
		}
	}
}
