package wire_test

import (
	"bytes"
	"encoding/binary"
	"math"
	"math/rand/v2"
	"slices"
	"strconv"
	"strings"
	"testing"

	"enthymeme/api"
	"enthymeme/wire"
)

// uints are varints at which the number of bytes changes, and the ends of the domain.
var uints = []struct {
	n uint64
	b []byte
}{
	{0, []byte{0}},
	{1, []byte{1}},
	{127, []byte{127}},
	{128, []byte{128, 1}},
	{129, []byte{129, 1}},
	{255, []byte{255, 1}},
	{256, []byte{128, 2}},
	{300, []byte{172, 2}},
	{1<<14 - 1, []byte{255, 127}},
	{1 << 14, []byte{128, 128, 1}},
	{1<<63 - 1, []byte{255, 255, 255, 255, 255, 255, 255, 255, 127}},
	{1 << 63, []byte{128, 128, 128, 128, 128, 128, 128, 128, 128, 1}},
	{math.MaxUint64, []byte{255, 255, 255, 255, 255, 255, 255, 255, 255, 1}},
}

// ints are encodings of signed numbers around 0, around the ends of one byte and at the ends of the domain.
var ints = []struct {
	n int
	b []byte
}{
	{0, []byte{0}},
	{-1, []byte{1}},
	{1, []byte{2}},
	{-2, []byte{3}},
	{2, []byte{4}},
	{63, []byte{126}},
	{-64, []byte{127}},
	{64, []byte{128, 1}},
	{-65, []byte{129, 1}},
	{150, []byte{172, 2}},
	{math.MaxInt, []byte{254, 255, 255, 255, 255, 255, 255, 255, 255, 1}},
	{math.MinInt, []byte{255, 255, 255, 255, 255, 255, 255, 255, 255, 1}},
}

// texts are encodings of strings and byte slices: empty, not text, and of a length of two bytes.
var texts = []struct {
	s string
	b []byte
}{
	{"", []byte{0}},
	{"a", []byte{1, 97}},
	{"ab", []byte{2, 97, 98}},
	{"\x00", []byte{1, 0}},
	{"ü世", []byte{5, 0xc3, 0xbc, 0xe4, 0xb8, 0x96}},
	{"\xff\xfe\x80", []byte{3, 255, 254, 128}},
	{strings.Repeat("x", 127), append([]byte{127}, strings.Repeat("x", 127)...)},
	{strings.Repeat("x", 128), append([]byte{128, 1}, strings.Repeat("x", 128)...)},
}

// lists are encodings of lists of numbers.
var lists = []struct {
	l []int
	b []byte
}{
	{nil, []byte{0}},
	{[]int{}, []byte{0}},
	{[]int{0}, []byte{1, 0}},
	{[]int{1, -1, 64}, []byte{3, 2, 1, 128, 1}},
	{[]int{math.MinInt, 0}, []byte{2, 255, 255, 255, 255, 255, 255, 255, 255, 255, 1, 0}},
	{slices.Repeat([]int{-3}, 128), append([]byte{128, 1}, bytes.Repeat([]byte{5}, 128)...)},
}

// written returns the bytes of one use of a writer.
func written(use func(*wire.Writer)) []byte {
	var w wire.Writer
	use(&w)
	return w.Done()
}

// expect fails if bytes are not what they have to be.
func expect(t *testing.T, what any, got, want []byte) {
	t.Helper()
	if !bytes.Equal(got, want) {
		t.Errorf("%v: the bytes %v, want %v", what, got, want)
	}
}

// ends fails if a reader ends otherwise.
func ends(t *testing.T, what any, r *wire.Reader, want api.Errno) {
	t.Helper()
	if e := r.End(); e != want {
		t.Errorf("%v: End is %d, want %d", what, e, want)
	}
}

// goesOn fails if a reader is not just in front of the last bytes 9, 1.
func goesOn(t *testing.T, what any, r *wire.Reader) {
	t.Helper()
	ends(t, what, r, api.ErrForm)
	if n, b := r.Uint(), r.Bool(); n != 9 || !b {
		t.Errorf("%v: behind it come %d and %v, want 9 and true", what, n, b)
	}
	ends(t, what, r, api.OK)
}

// stuck fails if a method still returns a value after the error e, or changes it.
func stuck(t *testing.T, what any, r *wire.Reader, e api.Errno) {
	t.Helper()
	for range 2 {
		ends(t, what, r, e)
		if n := r.Int(); n != 0 {
			t.Errorf("%v: Int is %d after an error", what, n)
		}
		if n := r.Uint(); n != 0 {
			t.Errorf("%v: Uint is %d after an error", what, n)
		}
		if r.Bool() {
			t.Errorf("%v: Bool is true after an error", what)
		}
		if s := r.Text(); s != "" {
			t.Errorf("%v: Text is %q after an error", what, s)
		}
		if b := r.Raw(); len(b) > 0 {
			t.Errorf("%v: Raw is %v after an error", what, b)
		}
		if l := r.Ints(); len(l) > 0 {
			t.Errorf("%v: Ints is %v after an error", what, l)
		}
	}
	ends(t, what, r, e)
}

// P2.1: the encoding of each kind of value.
func TestWriteOne(t *testing.T) {
	for _, c := range uints {
		expect(t, c.n, written(func(w *wire.Writer) { w.Uint(c.n) }), c.b)
	}
	for _, c := range ints {
		expect(t, c.n, written(func(w *wire.Writer) { w.Int(c.n) }), c.b)
	}
	expect(t, false, written(func(w *wire.Writer) { w.Bool(false) }), []byte{0})
	expect(t, true, written(func(w *wire.Writer) { w.Bool(true) }), []byte{1})
	for _, c := range texts {
		expect(t, c.s, written(func(w *wire.Writer) { w.Text(c.s) }), c.b)
		expect(t, c.s, written(func(w *wire.Writer) { w.Raw([]byte(c.s)) }), c.b)
	}
	expect(t, "nil", written(func(w *wire.Writer) { w.Raw(nil) }), []byte{0})
	for _, c := range lists {
		expect(t, c.l, written(func(w *wire.Writer) { w.Ints(c.l) }), c.b)
	}
}

// P2.1: numbers of all sizes, against the standard library.
func TestWriteMany(t *testing.T) {
	r := rand.New(rand.NewPCG(1, 2))
	for range 5000 {
		n := r.Uint64() >> r.IntN(64)
		expect(t, n, written(func(w *wire.Writer) { w.Uint(n) }), binary.AppendUvarint(nil, n))
		expect(t, int(n), written(func(w *wire.Writer) { w.Int(int(n)) }), binary.AppendVarint(nil, int64(n)))
		expect(t, -int(n), written(func(w *wire.Writer) { w.Int(-int(n)) }), binary.AppendVarint(nil, -int64(n)))
	}
}

// P2.1: values are appended to those before them, in their order, after Done too.
func TestWriteAppends(t *testing.T) {
	var w wire.Writer
	expect(t, "a new writer", w.Done(), nil)
	w.Int(-1)
	w.Uint(300)
	w.Bool(true)
	first := w.Done()
	w.Text("ab")
	w.Raw([]byte{7})
	w.Ints([]int{1, 2})
	w.Bool(false)
	expect(t, "the first values", first, []byte{1, 172, 2, 1})
	expect(t, "all values", w.Done(), []byte{1, 172, 2, 1, 2, 97, 98, 1, 7, 2, 2, 4, 0})
	expect(t, "all values again", w.Done(), []byte{1, 172, 2, 1, 2, 97, 98, 1, 7, 2, 2, 4, 0})
}

// P2.1: what Done has returned and the writer do not affect each other, and neither do two writers.
func TestDoneIsNew(t *testing.T) {
	var w, other wire.Writer
	w.Text("abc")
	first, second := w.Done(), w.Done()
	clear(first[:cap(first)])
	expect(t, "a second result", second, []byte{3, 97, 98, 99})
	other.Uint(5)
	w.Uint(6)
	_ = append(second, 77)
	expect(t, "the writer", w.Done(), []byte{3, 97, 98, 99, 6})
	expect(t, "another writer", other.Done(), []byte{5})
	expect(t, "a result before an append", second, []byte{3, 97, 98, 99})
}

// P2.1: arguments are neither changed nor kept.
func TestWriteArgumentsStay(t *testing.T) {
	b, l := []byte{1, 2, 3, 4}, []int{1, 2, 3, 4}
	var w wire.Writer
	w.Raw(b[:2])
	w.Ints(l[:2])
	if !slices.Equal(b, []byte{1, 2, 3, 4}) || !slices.Equal(l, []int{1, 2, 3, 4}) {
		t.Error("an argument was changed", b, l)
	}
	b[0], l[0] = 9, 9
	expect(t, "after changes of the arguments", w.Done(), []byte{2, 1, 2, 2, 2, 4})
}

// P2.2: a reader is at the beginning, without an error, and moves past each value.
func TestReadInOrder(t *testing.T) {
	ends(t, "nil", wire.Read(nil), api.OK)
	ends(t, "no bytes", wire.Read([]byte{}), api.OK)
	r := wire.Read([]byte{1, 172, 2, 1, 2, 97, 98, 1, 7, 2, 2, 4, 0})
	if n := r.Int(); n != -1 {
		t.Error("Int", n)
	}
	if n := r.Uint(); n != 300 {
		t.Error("Uint", n)
	}
	if !r.Bool() {
		t.Error("Bool")
	}
	if s := r.Text(); s != "ab" {
		t.Error("Text", s)
	}
	if b := r.Raw(); !bytes.Equal(b, []byte{7}) {
		t.Error("Raw", b)
	}
	if l := r.Ints(); !slices.Equal(l, []int{1, 2}) {
		t.Error("Ints", l)
	}
	ends(t, "a value is left", r, api.ErrForm)
	if r.Bool() {
		t.Error("the last Bool")
	}
	ends(t, "all values", r, api.OK)
}

// P2.2: a reader and its bytes do not affect each other, and neither do two readers.
func TestReadCopies(t *testing.T) {
	b := []byte{5, 2, 8, 9, 1}
	r, other := wire.Read(b), wire.Read(b)
	r.Uint()
	raw := r.Raw()
	if !slices.Equal(b, []byte{5, 2, 8, 9, 1}) {
		t.Error("the argument was changed", b)
	}
	clear(b)
	clear(raw[:cap(raw)])
	if n := r.Uint(); n != 1 {
		t.Error("behind a changed result comes", n)
	}
	ends(t, "the reader", r, api.OK)
	if n, raw := other.Uint(), other.Raw(); n != 5 || !bytes.Equal(raw, []byte{8, 9}) {
		t.Error("another reader of the same bytes returns", n, raw)
	}
}

// P2.2: the first error stays, whichever method meets it, although good values follow.
func TestFirstErrorStays(t *testing.T) {
	for _, c := range []struct {
		what string
		b    []byte
		read func(*wire.Reader)
		want api.Errno
	}{
		{"Uint", []byte{128, 0, 1, 1, 1, 1}, func(r *wire.Reader) { r.Uint() }, api.ErrForm},
		{"Int", []byte{128, 0, 1, 1, 1, 1}, func(r *wire.Reader) { r.Int() }, api.ErrForm},
		{"Bool", []byte{2, 1, 1, 1, 1}, func(r *wire.Reader) { r.Bool() }, api.ErrForm},
		{"Text", []byte{5, 1, 1, 1, 1}, func(r *wire.Reader) { r.Text() }, api.ErrMore},
		{"Raw", []byte{5, 1, 1, 1, 1}, func(r *wire.Reader) { r.Raw() }, api.ErrMore},
		{"Ints", []byte{5, 1, 1, 1, 1}, func(r *wire.Reader) { r.Ints() }, api.ErrMore},
		{"an element", []byte{2, 1, 129, 0, 1, 1, 1}, func(r *wire.Reader) { r.Ints() }, api.ErrForm},
		{"Uint at the end", nil, func(r *wire.Reader) { r.Uint() }, api.ErrMore},
	} {
		r := wire.Read(c.b)
		c.read(r)
		stuck(t, c.what, r, c.want)
	}
}

// P2.2: after an error, End does not speak of the bytes that are left.
func TestEndAfterError(t *testing.T) {
	r := wire.Read([]byte{3, 97, 98})
	r.Text()
	ends(t, "too short, bytes left", r, api.ErrMore)
	r = wire.Read([]byte{2})
	r.Bool()
	ends(t, "no truth value, no bytes left", r, api.ErrForm)
}

// P2.2: that bytes are left is not recorded.
func TestEndRecordsNothing(t *testing.T) {
	r := wire.Read([]byte{1, 3})
	for i, want := range []uint64{1, 3} {
		ends(t, i, r, api.ErrForm)
		ends(t, i, r, api.ErrForm)
		if n := r.Uint(); n != want {
			t.Errorf("Uint is %d, want %d", n, want)
		}
	}
	ends(t, "all", r, api.OK)
	ends(t, "all", r, api.OK)
	r.Uint()
	stuck(t, "one more", r, api.ErrMore)
}

// P2.3: good varints, and what follows them is left.
func TestUint(t *testing.T) {
	for _, c := range uints {
		r := wire.Read(append(slices.Clone(c.b), 9, 1))
		if n := r.Uint(); n != c.n {
			t.Errorf("Uint of %v is %d, want %d", c.b, n, c.n)
		}
		goesOn(t, c.n, r)
	}
}

// malformed are bytes that no varint begins with, and those of which varints are prefixes.
func malformed() map[string]api.Errno {
	nine := strings.Repeat("\x80", 9)
	return map[string]api.Errno{
		"":                                 api.ErrMore,
		"\x80":                             api.ErrMore,
		"\xff":                             api.ErrMore,
		"\x80\x80":                         api.ErrMore,
		nine:                               api.ErrMore,
		strings.Repeat("\xff", 9):          api.ErrMore,
		"\x80\x00":                         api.ErrForm,
		"\x81\x00":                         api.ErrForm,
		"\x80\x80\x00":                     api.ErrForm,
		"\xff\xff\x00\x01":                 api.ErrForm,
		nine + "\x00":                      api.ErrForm,
		nine + "\x02":                      api.ErrForm,
		nine + "\x7f":                      api.ErrForm,
		nine + "\x80":                      api.ErrForm,
		nine + "\x81":                      api.ErrForm,
		nine + "\xff":                      api.ErrForm,
		nine + "\x80\x01":                  api.ErrForm,
		strings.Repeat("\xff", 9) + "\x03": api.ErrForm,
		strings.Repeat("\xff", 99):         api.ErrForm,
	}
}

// P2.3, P2.4, P2.5: the errors of varints, as numbers and as lengths.
func TestMalformedVarints(t *testing.T) {
	for s, want := range malformed() {
		for what, read := range map[string]func(*wire.Reader){
			"Uint": func(r *wire.Reader) { r.Uint() },
			"Int":  func(r *wire.Reader) { r.Int() },
			"Text": func(r *wire.Reader) { r.Text() },
			"Raw":  func(r *wire.Reader) { r.Raw() },
			"Ints": func(r *wire.Reader) { r.Ints() },
		} {
			r := wire.Read([]byte(s))
			read(r)
			stuck(t, what+" of "+strconv.Quote(s), r, want)
		}
		r := wire.Read([]byte(s))
		if n := r.Uint(); n != 0 {
			t.Errorf("Uint of %q is %d with an error", s, n)
		}
		r = wire.Read([]byte(s))
		if n := r.Int(); n != 0 {
			t.Errorf("Int of %q is %d with an error", s, n)
		}
	}
}

// examined returns what P2.3 says of some bytes: the number, how many bytes it has, and the error.
func examined(b []byte) (uint64, int, api.Errno) {
	for i, c := range b {
		if i == 9 && c > 1 || i > 0 && c == 0 {
			return 0, 0, api.ErrForm
		}
		if c < 128 {
			n, size := binary.Uvarint(b[:i+1])
			return n, size, api.OK
		}
	}
	return 0, 0, api.ErrMore
}

// sameAsExamined fails if Uint does not return what P2.3 says.
func sameAsExamined(t *testing.T, b []byte) {
	t.Helper()
	want, size, e := examined(b)
	r := wire.Read(b)
	if n := r.Uint(); n != want {
		t.Fatalf("Uint of %v is %d, want %d", b, n, want)
	}
	if e == api.OK && size < len(b) {
		e = api.ErrForm
		if n, rest, f := examined(b[size:]); f == api.OK && rest+size == len(b) {
			if got := r.Uint(); got != n {
				t.Fatalf("the second Uint of %v is %d, want %d", b, got, n)
			}
			e = api.OK
		}
	}
	ends(t, b, r, e)
}

// P2.3: all sequences of up to two bytes, and longer ones of the bytes that matter.
func TestUintExamines(t *testing.T) {
	for a := range 256 {
		sameAsExamined(t, []byte{byte(a)})
		for b := range 256 {
			sameAsExamined(t, []byte{byte(a), byte(b)})
		}
	}
	r := rand.New(rand.NewPCG(3, 4))
	for range 50000 {
		b := make([]byte, 1+r.IntN(13))
		for i := range b {
			b[i] = []byte{0, 1, 2, 127}[r.IntN(4)]
			if r.IntN(5) > 0 { // mostly one more byte, so that tenth ones are reached
				b[i] |= 128
			}
		}
		sameAsExamined(t, b)
	}
}

// P2.4: signed numbers, and what follows them is left.
func TestInt(t *testing.T) {
	for _, c := range ints {
		r := wire.Read(append(slices.Clone(c.b), 9, 1))
		if n := r.Int(); n != c.n {
			t.Errorf("Int of %v is %d, want %d", c.b, n, c.n)
		}
		goesOn(t, c.n, r)
	}
	for z := range 2000 {
		n := z / 2
		if z%2 == 1 {
			n = -(z + 1) / 2
		}
		r := wire.Read(binary.AppendUvarint(nil, uint64(z)))
		if got := r.Int(); got != n {
			t.Errorf("the number of the zigzag form %d is %d, want %d", z, got, n)
		}
		ends(t, z, r, api.OK)
	}
}

// P2.4: each byte as a truth value.
func TestBool(t *testing.T) {
	for c := range 256 {
		r := wire.Read([]byte{byte(c), 9, 1})
		if b := r.Bool(); b != (c == 1) {
			t.Errorf("Bool of %d is %v", c, b)
		}
		if c > 1 {
			stuck(t, c, r, api.ErrForm)
		} else {
			goesOn(t, c, r)
		}
	}
	r := wire.Read(nil)
	if r.Bool() {
		t.Error("Bool of no byte is true")
	}
	stuck(t, "no byte", r, api.ErrMore)
}

// P2.5: strings, byte slices and lists, and what follows them is left.
func TestLists(t *testing.T) {
	for _, c := range texts {
		r := wire.Read(append(slices.Clone(c.b), 9, 1))
		if s := r.Text(); s != c.s {
			t.Errorf("Text of %v is %q, want %q", c.b, s, c.s)
		}
		goesOn(t, c.s, r)
		r = wire.Read(append(slices.Clone(c.b), 9, 1))
		if b := r.Raw(); string(b) != c.s {
			t.Errorf("Raw of %v is %v, want %q", c.b, b, c.s)
		}
		goesOn(t, c.s, r)
	}
	for _, c := range lists {
		r := wire.Read(append(slices.Clone(c.b), 9, 1))
		if l := r.Ints(); !slices.Equal(l, c.l) {
			t.Errorf("Ints of %v is %v, want %v", c.b, l, c.l)
		}
		goesOn(t, c.l, r)
	}
}

// P2.5: a length greater than the number of bytes that are left, also far beyond what could be allocated.
func TestLengthTooGreat(t *testing.T) {
	for _, n := range []uint64{4, 5, 127, 128, 1<<31 - 1, 1 << 31, 1 << 32, 1<<32 + 3, 1<<63 - 1, 1 << 63, 1<<63 + 3, math.MaxUint64} {
		b := append(binary.AppendUvarint(nil, n), 1, 1, 1)
		r := wire.Read(b)
		if s := r.Text(); s != "" {
			t.Errorf("Text with the length %d is %q", n, s)
		}
		stuck(t, n, r, api.ErrMore)
		r = wire.Read(b)
		if s := r.Raw(); len(s) > 0 {
			t.Errorf("Raw with the length %d is %v", n, s)
		}
		stuck(t, n, r, api.ErrMore)
		r = wire.Read(b)
		if l := r.Ints(); len(l) > 0 {
			t.Errorf("Ints with the length %d is %v", n, l)
		}
		stuck(t, n, r, api.ErrMore)
	}
	r := wire.Read([]byte{3, 1, 1, 1})
	if l := r.Ints(); !slices.Equal(l, []int{-1, -1, -1}) {
		t.Error("Ints with as many bytes as elements is", l)
	}
	ends(t, "as many bytes as elements", r, api.OK)
}

// P2.5: the length is compared with the bytes behind it before an element is examined.
func TestLengthComesFirst(t *testing.T) {
	r := wire.Read([]byte{4, 128, 0, 1})
	r.Ints()
	ends(t, "too short, with a malformed element", r, api.ErrMore)
	r = wire.Read([]byte{3, 128, 0, 1})
	r.Ints()
	ends(t, "long enough, with a malformed element", r, api.ErrForm)
}

// P2.5: an error of an element leaves nothing of the list.
func TestElementFails(t *testing.T) {
	for _, c := range []struct {
		b    []byte
		want api.Errno
	}{
		{[]byte{1, 128}, api.ErrMore},
		{[]byte{2, 172, 2}, api.ErrMore},
		{[]byte{3, 2, 2, 128}, api.ErrMore},
		{[]byte{3, 172, 2, 4}, api.ErrMore},
		{[]byte{2, 2, 128, 0}, api.ErrForm},
		{[]byte{3, 128, 0, 2, 4, 6}, api.ErrForm},
		{append([]byte{2, 2}, bytes.Repeat([]byte{255}, 10)...), api.ErrForm},
	} {
		r := wire.Read(c.b)
		if l := r.Ints(); len(l) > 0 {
			t.Errorf("Ints of %v is %v with an error", c.b, l)
		}
		stuck(t, c.b, r, c.want)
	}
}

// P2.5: results are new: two of one reader, and those of two readers, share nothing.
func TestListsAreNew(t *testing.T) {
	b := []byte{2, 1, 2, 2, 3, 4, 2, 2, 4, 2, 6, 8}
	r := wire.Read(b)
	first, second := r.Raw(), r.Raw()
	_ = append(first, 99, 99, 99)
	clear(first)
	if !bytes.Equal(second, []byte{3, 4}) {
		t.Error("a change of one slice changes the next one to", second)
	}
	k, l := r.Ints(), r.Ints()
	_ = append(k, 99, 99)
	clear(k)
	if !slices.Equal(l, []int{3, 4}) {
		t.Error("a change of one list changes the next one to", l)
	}
	if again := wire.Read(b).Raw(); !bytes.Equal(again, []byte{1, 2}) {
		t.Error("a change of a result changes the argument of Read to", again)
	}
}
