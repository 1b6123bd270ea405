package eval_test

import (
	"bytes"
	"slices"
	"testing"

	"enthymeme/api"
	"enthymeme/eval"
	"enthymeme/value"
	"enthymeme/wire"
)

// P8.6: bytes written by hand.
func TestEncode(t *testing.T) {
	// A value: Kind, N and Index, each twice as large; U; the length and bytes of S; twice the number of entries, and for each Index, U, and the length and bytes of S.
	for i, x := range []struct {
		m    M
		want []byte
	}{
		{M{}, []byte{0}},
		{model("x", num(5, 8)), []byte{2, 1, 'x', 6, 0, 16, 0, 5, 0, 0}},
		{model("a", txt("bc", 3), "a-0", of(arr(8, 4), bit(3, 200)), "b", of(ars(2, 1), word(0, "x"), word(1, "yz"))), []byte{
			6,
			1, 'a', 8, 2, 6, 0, 0, 2, 'b', 'c', 0,
			3, 'a', '-', '0', 10, 4, 16, 8, 0, 0, 2, 3, 200, 1, 0,
			1, 'b', 15, 6, 4, 2, 0, 0, 4, 0, 0, 1, 'x', 1, 0, 2, 'y', 'z',
		}},
	} {
		m, changed := roomy(x.m)
		b, e := eval.Encode(m)
		if e != api.OK || !slices.Equal(b, x.want) {
			t.Errorf("%d: %v, %d, not %v", i, b, e, x.want)
		}
		if changed() {
			t.Errorf("%d: the model has changed", i)
		}
		back, e := eval.Decode(x.want)
		if e != api.OK || !equal(back, x.m) {
			t.Errorf("%d: back: %v, %d", i, back, e)
		}
	}
}

// written is what P8.6 says of Encode, with any number of names.
func written(count int, m M) []byte {
	var w wire.Writer
	w.Int(count)
	for i, name := range m.Names {
		w.Raw([]byte(name))
		b, _ := value.Encode(m.Values[i])
		w.Raw(b)
	}
	return w.Done()
}

// P8.6: errors of Encode are those of Valid; random models, and their encodings with faults.
func TestEncodings(t *testing.T) {
	r := random(11)
	for range 4000 {
		m := faultyModel(r)
		b, e := eval.Encode(m)
		if e != eval.Valid(m) || e != api.OK && len(b) != 0 {
			t.Fatalf("%v: %v, %d", m, b, e)
		}
		if e != api.OK {
			continue
		}
		if want := written(len(m.Names), m); !slices.Equal(b, want) {
			t.Fatalf("%v: %v, not %v", m, b, want)
		}
		before := slices.Clone(b)
		back, e := eval.Decode(b)
		if e != api.OK || !equal(back, m) || !slices.Equal(b, before) {
			t.Fatalf("%v: back: %v, %d", m, back, e)
		}
		// The model keeps nothing of the bytes.
		for i := range b {
			b[i] = 99
		}
		if !equal(back, m) {
			t.Fatalf("%v shares memory with its bytes", m)
		}
		for range 20 {
			c := slices.Clone(before)
			switch at := r.IntN(len(c)); r.IntN(3) {
			case 0:
				c[at] ^= 1 << r.IntN(8)
			case 1:
				c = slices.Delete(c, at, at+1)
			case 2:
				c = slices.Insert(c, at, byte(r.IntN(256)))
			}
			decodes(t, c)
		}
	}
}

// decodes examines that Decode of any bytes is undone by Encode, or fails.
func decodes(t *testing.T, b []byte) {
	t.Helper()
	m, e := eval.Decode(b)
	if e != api.OK {
		if e != api.ErrForm || !empty(m) {
			t.Fatalf("%v: %v, %d", b, m, e)
		}
		return
	}
	if again, e := eval.Encode(m); e != api.OK || !slices.Equal(again, b) {
		t.Fatalf("%v: %v, which has the bytes %v, %d", b, m, again, e)
	}
}

// P8.6: what is no encoding.
func TestDecodeErrors(t *testing.T) {
	x := model("a", num(5, 8), "b", txt("b", 2))
	good := written(2, x)
	value8, _ := value.Encode(num(5, 8))
	bad := [][]byte{
		nil, {}, {1}, {3}, {2}, {4}, {128, 0}, {255, 255, 255, 255, 255, 255, 255, 255, 255, 1}, {254, 255, 255, 255, 255, 255, 255, 255, 255, 1}, {0, 0},
		append(slices.Clone(good), 0), written(1, x), written(3, x), written(-2, x), written(-1, x), written(0, x), written(1<<40, x), written(-1, M{}), written(1, M{}), written(1<<62, M{}),
		written(1, model("A", num(5, 8))), written(1, model("", num(5, 8))), written(2, model("b", num(5, 8), "a", num(5, 8))), written(2, model("a", num(5, 8), "a", num(5, 8))), written(1, model("a", num(256, 8))),
		// A value with bytes behind it, or without its last one.
		slices.Concat([]byte{2, 1, 'a', byte(len(value8) + 1)}, value8, []byte{0}), slices.Concat([]byte{2, 1, 'a', byte(len(value8) - 1)}, value8[:len(value8)-1]),
		// A value that is not valid: 5 with 2 bits.
		{2, 1, 'a', 6, 0, 4, 0, 5, 0, 0},
		// A length that is not written as wire does.
		{2, 129, 0, 'x', 6, 0, 16, 0, 5, 0, 0}, {130, 0, 1, 'x', 6, 0, 16, 0, 5, 0, 0},
	}
	for n := range good {
		bad = append(bad, good[:n])
	}
	for i, b := range bad {
		if m, e := eval.Decode(b); !empty(m) || e != api.ErrForm {
			t.Errorf("%d: %v: %v, %d", i, b, m, e)
		}
	}
	if m, e := eval.Decode(good); e != api.OK || !equal(m, x) {
		t.Errorf("%v, %d", m, e)
	}
	many := M{}
	for i := range 17000 {
		many.Names = append(many.Names, string([]byte{'a', 'a' + byte(i/676), 'a' + byte(i/26%26), 'a' + byte(i%26)}))
		many.Values = append(many.Values, num(uint64(i), 64))
	}
	if b, e := eval.Encode(many); e != api.OK || !bytes.Equal(b, written(len(many.Names), many)) {
		t.Errorf("17000 names: %d bytes, %d", len(b), e)
	} else if m, e := eval.Decode(b); e != api.OK || !equal(m, many) {
		t.Errorf("17000 names: back: %d names, %d", len(m.Names), e)
	}
}
