package value_test

import (
	"bytes"
	"math"
	"math/rand/v2"
	"slices"
	"strings"
	"testing"

	"enthymeme/api"
	"enthymeme/value"
	"enthymeme/wire"
)

// written is what the chapter says of the bytes of a value, word by word; also of such values as are not valid.
func written(v V, entries int) []byte {
	var w wire.Writer
	w.Int(v.Sort.Kind)
	w.Int(v.Sort.N)
	w.Int(v.Sort.Index)
	w.Uint(v.U)
	w.Raw([]byte(v.S))
	w.Int(entries)
	for _, x := range v.Map {
		w.Uint(x.Index)
		w.Uint(x.U)
		w.Raw([]byte(x.S))
	}
	return w.Done()
}

// P6.6: bytes that are written out.
func TestEncode(t *testing.T) {
	for i, x := range []struct {
		v    V
		want []byte
	}{
		{bv(1, 0), []byte{0, 2, 0, 0, 0, 0}},
		{bv(1, 1), []byte{0, 2, 0, 1, 0, 0}},
		{bv(8, 200), []byte{0, 16, 0, 200, 1, 0, 0}},
		{bv(64, math.MaxUint64), []byte{0, 128, 1, 0, 255, 255, 255, 255, 255, 255, 255, 255, 255, 1, 0, 0}},
		{str(0, ""), []byte{2, 0, 0, 0, 0, 0}},
		{str(5, "ab"), []byte{2, 10, 0, 0, 2, 97, 98, 0}},
		{str(5, "\x00\xff"), []byte{2, 10, 0, 0, 2, 0, 255, 0}},
		{arr(1, 1), []byte{4, 2, 2, 0, 0, 0}},
		{arr(8, 16, E{3, 5, ""}), []byte{4, 16, 32, 0, 0, 2, 3, 5, 0}},
		{arr(8, 16, E{0, 1, ""}, E{300, 128, ""}), []byte{4, 16, 32, 0, 0, 4, 0, 1, 0, 172, 2, 128, 1, 0}},
		{ars(0, 1), []byte{6, 0, 2, 0, 0, 0}},
		{ars(9, 2, E{1, 0, "x"}, E{3, 0, "yz"}), []byte{6, 18, 4, 0, 0, 4, 1, 0, 1, 120, 3, 0, 2, 121, 122}},
	} {
		before := copied(x.v)
		b, e := value.Encode(x.v)
		if !bytes.Equal(b, x.want) || e != api.OK {
			t.Errorf("%d: %v, %d, not %v", i, b, e, x.want)
		}
		if v, e := value.Decode(x.want); !same(v, x.v) || e != api.OK {
			t.Errorf("%d: back to %v, %d, not %v", i, v, e, x.v)
		}
		if !same(before, x.v) {
			t.Errorf("%d: the value has become %v", i, x.v)
		}
	}
}

// P6.6: what is encoded is decoded; neither keeps or shares memory.
func TestRoundTrip(t *testing.T) {
	r := rand.New(rand.NewPCG(6, 6))
	values := validValues()
	for _, s := range smallSorts() {
		values = append(values, every(s)...)
	}
	for range 3000 {
		values = append(values, randomValue(r, randomSort(r)))
	}
	encodings := map[string]V{}
	for i, v := range values {
		b := must[[]byte](t)(value.Encode(v))
		if !bytes.Equal(b, written(v, len(v.Map))) {
			t.Fatalf("%d: %v is encoded as %v", i, v, b)
		}
		kept := slices.Clone(b)
		got, e := value.Decode(b)
		if e != api.OK || !bytes.Equal(b, kept) {
			t.Fatalf("%d: error %d for %v, of %v", i, e, b, v)
		}
		for k := range b {
			b[k] ^= 0xff
		}
		if !same(got, v) || value.Compare(got, v) != 0 {
			t.Fatalf("%d: %v comes back as %v", i, v, got)
		}
		// P6.9: equal encodings are those of equal values.
		if other, found := encodings[string(kept)]; found && !same(other, v) {
			t.Fatalf("%d: %v and %v are both encoded as %v", i, v, other, kept)
		}
		encodings[string(kept)] = v
	}
}

// P6.9: valid values are equal exactly if their encodings are.
func TestEncodingsAreValues(t *testing.T) {
	var values []V
	for _, s := range smallSorts() {
		all := every(s)
		values = append(values, all[:min(len(all), 60)]...)
	}
	var encodings []string
	for _, v := range values {
		encodings = append(encodings, string(must[[]byte](t)(value.Encode(v))))
	}
	for i := range values {
		for k := range values {
			if equal := value.Compare(values[i], values[k]) == 0; equal != (encodings[i] == encodings[k]) {
				t.Fatalf("%v and %v are encoded as %q and %q", values[i], values[k], encodings[i], encodings[k])
			}
		}
	}
}

// malformed are bytes that encode no valid value.
func malformed() map[string][]byte {
	all := map[string][]byte{
		"nil":                      nil,
		"no bytes":                 {},
		"-1 entries":               {0, 2, 0, 0, 0, 1},
		"-1 entries of an array":   {4, 2, 2, 0, 0, 1},
		"-1 entries, but one":      {4, 16, 32, 0, 0, 1, 3, 5, 0},
		"the least number":         {4, 2, 2, 0, 0, 255, 255, 255, 255, 255, 255, 255, 255, 255, 1},
		"the greatest number":      {4, 2, 2, 0, 0, 254, 255, 255, 255, 255, 255, 255, 255, 255, 1},
		"the greatest and one":     {4, 16, 32, 0, 0, 254, 255, 255, 255, 255, 255, 255, 255, 255, 1, 3, 5, 0},
		"65536 entries, but none":  {4, 16, 32, 0, 0, 128, 128, 8},
		"2 entries, but one":       {4, 16, 32, 0, 0, 4, 3, 5, 0},
		"no entries, but one":      {4, 16, 32, 0, 0, 0, 3, 5, 0},
		"1 entry, but two":         {4, 16, 32, 0, 0, 2, 3, 5, 0, 4, 5, 0},
		"a longer form of Kind":    {128, 0, 2, 0, 0, 0, 0},
		"a longer form of U":       {0, 2, 0, 129, 0, 0, 0},
		"a longer form of Index":   {4, 16, 32, 0, 0, 2, 131, 0, 5, 0},
		"a longer form of entries": {0, 2, 0, 0, 0, 128, 0},
		"a longer form of S":       {2, 10, 0, 0, 129, 0, 97, 0},
		"U beyond 64 bits":         {0, 128, 1, 0, 255, 255, 255, 255, 255, 255, 255, 255, 255, 2, 0, 0},
		"S beyond the end":         {2, 10, 0, 0, 3, 97, 98},
		"a huge S":                 {2, 10, 0, 0, 255, 255, 255, 255, 255, 255, 255, 255, 255, 1, 97, 98, 0},
		"an entry's huge S":        {6, 18, 4, 0, 0, 2, 1, 0, 255, 255, 255, 255, 255, 255, 255, 255, 255, 1},
	}
	for name, x := range invalidValues() {
		all["not valid: "+name] = written(x.v, len(x.v.Map))
	}
	return all
}

// P6.6
func TestDecodeErrors(t *testing.T) {
	for name, b := range malformed() {
		kept := slices.Clone(b)
		if v, e := value.Decode(b); !zero(v) || e != api.ErrForm {
			t.Errorf("%s: %v, %d", name, v, e)
		}
		if !bytes.Equal(b, kept) {
			t.Errorf("%s: the bytes have become %v", name, b)
		}
	}
	for i, v := range validValues() {
		b := must[[]byte](t)(value.Encode(v))
		for n := range b[:min(len(b), 200)] {
			if v, e := value.Decode(b[:n]); !zero(v) || e != api.ErrForm {
				t.Errorf("%d: %d of %d bytes are %v, %d", i, n, len(b), v, e)
			}
		}
		if v, e := value.Decode(b[:len(b)-1]); !zero(v) || e != api.ErrForm {
			t.Errorf("%d: without the last byte: error %d", i, e)
		}
		for _, more := range []byte{0, 1, 128, 255} {
			if v, e := value.Decode(append(slices.Clone(b), more)); !zero(v) || e != api.ErrForm {
				t.Errorf("%d: with one byte more: error %d", i, e)
			}
		}
		for _, entries := range []int{len(v.Map) + 1, len(v.Map) - 1, len(v.Map) + 1000, -len(v.Map) - 1, math.MaxInt, math.MinInt} {
			if v, e := value.Decode(written(v, entries)); !zero(v) || e != api.ErrForm {
				t.Errorf("%d: with %d for the number of entries: error %d", i, entries, e)
			}
		}
	}
}

// P6.6: all sequences of six bytes below 7, and longer ones with some beginnings, against the encodings of all values that can have them.
func TestDecodeEverything(t *testing.T) {
	encodings := map[string]V{}
	for _, v := range fewBytes() {
		encodings[string(written(v, len(v.Map)))] = v
	}
	valid := 0
	decode := func(b []byte) {
		want, found := encodings[string(b)]
		v, e := value.Decode(b)
		if found != (e == api.OK) || found && !same(v, want) || !found && (!zero(v) || e != api.ErrForm) {
			t.Fatalf("%v is %v, %d, not %v", b, v, e, want)
		}
		if found {
			valid++
		}
	}
	sequences(nil, 6, decode)
	for _, beginning := range [][]byte{{4, 2, 2, 0, 0}, {4, 4, 2, 0, 0}, {6, 0, 2, 0, 0}, {6, 2, 2, 0, 0}, {0, 6, 0, 0, 0}, {2, 6, 0, 0, 0}} {
		for n := 8; n <= 10; n++ {
			sequences(beginning, n, decode)
		}
	}
	for n := 6; n <= 9; n++ {
		sequences([]byte{2, 4, 0, 0}, n, decode) // strings of at most two bytes
	}
	// Six bytes: 13 bit-vectors, 4 strings, 9 and 12 arrays; then the arrays of one entry, and the strings again.
	if valid != 13+4+9+12+2+6+14+1+7+49 {
		t.Errorf("%d sequences were those of values", valid)
	}
}

// fewBytes returns valid values, all that have encodings of up to 10 bytes below 7 among them: N and Index are at most 3, numbers at most 6.
func fewBytes() []V {
	var values []V
	for n := 0; n <= 3; n++ {
		for u := range uint64(7) {
			values = append(values, bv(n, u))
		}
		values = append(values, str(n, ""))
		for _, s := range fewTexts() {
			values = append(values, str(n, s))
		}
		for index := 1; index <= 3; index++ {
			values = append(values, arr(n, index), ars(n, index))
			for i := range uint64(7) {
				for u := range uint64(7) {
					values = append(values, arr(n, index, E{i, u, ""}))
				}
				for _, s := range fewTexts() {
					values = append(values, ars(n, index, E{i, 0, s}))
				}
			}
		}
	}
	return slices.DeleteFunc(values, func(v V) bool { return value.Valid(v) != api.OK })
}

// fewTexts returns the strings of one or two bytes below 7.
func fewTexts() []string {
	var all []string
	for c := range byte(7) {
		all = append(all, string([]byte{c}))
		for d := range byte(7) {
			all = append(all, string([]byte{c, d}))
		}
	}
	return all
}

// sequences hands all sequences of n bytes below 7 with this beginning to a function.
func sequences(b []byte, n int, each func(b []byte)) {
	if len(b) == n {
		each(b)
		return
	}
	for c := range byte(7) {
		sequences(append(slices.Clone(b), c), n, each)
	}
}

// P6.6: encodings with a byte altered, left out or put in are those of other values, or of none.
func TestDecodeAltered(t *testing.T) {
	r := rand.New(rand.NewPCG(6, 66))
	valid := 0
	for range 100000 {
		b := must[[]byte](t)(value.Encode(randomValue(r, randomSort(r))))
		for range 1 + r.IntN(2) {
			at := r.IntN(len(b))
			switch r.IntN(3) {
			case 0:
				b[at] = byte(r.Uint32()) >> r.IntN(8)
			case 1:
				b = slices.Delete(b, at, at+1)
			case 2:
				b = slices.Insert(b, at, byte(r.Uint32())>>r.IntN(8))
			}
		}
		v, e := value.Decode(b)
		if e != api.OK {
			if !zero(v) || e != api.ErrForm {
				t.Fatalf("%v is %v, %d", b, v, e)
			}
			continue
		}
		valid++
		if again := must[[]byte](t)(value.Encode(v)); !bytes.Equal(again, b) {
			t.Fatalf("%v is %v, which is %v", b, v, again)
		}
	}
	if valid < 1000 {
		t.Errorf("only %d altered encodings were those of values", valid)
	}
}

// P6.6: a long encoding whose number of entries is wrong is given up in time.
func TestDecodeLong(t *testing.T) {
	v := full(api.Ars)
	if got, e := value.Decode(written(v, math.MaxInt)); !zero(got) || e != api.ErrForm {
		t.Errorf("65536 entries, said to be many more: error %d", e)
	}
	text := []byte(strings.Repeat("\x00\x01\x00", 1<<20))
	if got, e := value.Decode(append(written(arr(64, 16), 1<<20), text...)); !zero(got) || e != api.ErrForm {
		t.Errorf("2^20 entries at one index: error %d", e)
	}
}
