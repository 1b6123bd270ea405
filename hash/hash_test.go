package hash_test

import (
	"encoding/binary"
	"math"
	"math/rand/v2"
	"slices"
	"strings"
	"testing"

	"enthymeme/hash"
)

const factor = 0x9E3779B97F4A7C15

// edges are words at which signs, halves of a word and overflows change.
var edges = []int{math.MinInt, math.MinInt + 1, -1 << 32, -1<<31 - 1, -256, -2, -1, 0, 1, 2, 255, 1<<31 - 1, 1 << 31, 1<<32 - 1, 1 << 32, math.MaxInt - 1, math.MaxInt}

// labels have lengths around multiples of 8, bytes that are 0, and bytes that are not text.
var labels = []string{"", "a", "b", "aa", "pair", "\x00", "\x00\x00", "1234567", "12345678", "12345678\x00", "123456789", strings.Repeat("x", 16), strings.Repeat("x", 17), "ü世", "\xff\xfe\x80"}

// mixed returns the state after some words, as P1.1 describes it.
func mixed(words []uint64) uint64 {
	var s uint64
	for _, w := range words {
		m := (s ^ w) * factor
		s = m ^ m>>32
	}
	return s
}

// unmixed returns the state before a word, by that after it.
func unmixed(state, word uint64) uint64 {
	inverse := uint64(1)
	for range 6 { // Newton's method doubles the correct low bits each time, beginning with 1
		inverse *= 2 - factor*inverse
	}
	return (state^state>>32)*inverse ^ word
}

// wordsOf returns the words of bytes by way of a padded copy.
func wordsOf(b []byte) []uint64 {
	p := append(slices.Clone(b), make([]byte, (8-len(b)%8)%8)...)
	var l []uint64
	for ; len(p) > 0; p = p[8:] {
		l = append(l, binary.LittleEndian.Uint64(p))
	}
	return l
}

// argument returns what P1.1 mixes in, in its order.
func argument(label string, words []int) []uint64 {
	l := append(wordsOf([]byte(label)), uint64(len(label)), uint64(len(words)))
	for _, w := range words {
		l = append(l, uint64(w))
	}
	return append(l, 0)
}

// lists returns lists of words: none, the edges alone and in pairs, and longer ones.
func lists() [][]int {
	l := [][]int{nil, {}, {0, 0, 0}, {1, 2, 3}, {3, 2, 1}, edges}
	for _, a := range edges {
		l = append(l, []int{a})
		for _, b := range edges {
			l = append(l, []int{a, b})
		}
	}
	r := rand.New(rand.NewPCG(1, 1))
	for n := range 40 {
		x := make([]int, n)
		for i := range x {
			x[i] = int(r.Uint64())
		}
		l = append(l, x)
	}
	return l
}

// distinct fails if a hash comes twice.
func distinct(t *testing.T) func(h uint64, what ...any) {
	seen := map[uint64][]any{}
	return func(h uint64, what ...any) {
		t.Helper()
		if old, ok := seen[h]; ok {
			t.Errorf("%v and %v have the same hash %x", old, what, h)
		}
		seen[h] = what
	}
}

// P1.1: values that were computed apart from this program.
func TestSumKnown(t *testing.T) {
	for _, c := range []struct {
		label string
		words []int
		want  uint64
	}{
		{"", nil, 0},
		{"a", nil, 0x80b5f6f3a21f8298},
		{"a\x00", nil, 0x18f9d98ab2942d71},
		{"", []int{0}, 0x9c60c22591400851},
		{"a", []int{5}, 0xdbbe367e93b58544},
		{"a", []int{6}, 0x49fc8178b938ecaf},
		{"a", []int{-1}, 0x09ee594d249f2a64},
		{"n", []int{0, 0, 0}, 0x0aa567beb587e358},
		{"a", []int{math.MinInt, math.MaxInt}, 0xd44abd7a8ac43800},
		{"12345678", []int{1, 2}, 0x0509ba959b7cc9f6},
		{"123456789", []int{1, 2}, 0xd204de0b57ef746c},
		{"éÿ", []int{1}, 0x7670f1f187dfc8b0},
	} {
		if h := hash.Sum(c.label, c.words...); h != c.want {
			t.Errorf("Sum(%q, %v) is %x, want %x", c.label, c.words, h, c.want)
		}
	}
}

// P1.1: each part is mixed in, in its order.
func TestSumOrder(t *testing.T) {
	for _, label := range labels {
		for _, words := range lists() {
			if h, want := hash.Sum(label, words...), mixed(argument(label, words)); h != want {
				t.Fatalf("Sum(%q, %v) is %x, want %x", label, words, h, want)
			}
		}
	}
}

// P1.1: what stands in the label, in the words or in their number is not confused.
func TestSumParts(t *testing.T) {
	add := distinct(t)
	add(hash.Sum(""), "no label, no words")
	add(hash.Sum("", 0), "a word 0")
	add(hash.Sum("", 0, 0), "two words 0")
	add(hash.Sum("a"), "a label")
	add(hash.Sum("a\x00"), "a label with a zero byte")
	add(hash.Sum("a", 0), "a label and a word 0")
	add(hash.Sum("", 'a'), "a word like a label")
	add(hash.Sum("a", 1, 2), "two words")
	add(hash.Sum("a", 2, 1), "two words, exchanged")
	add(hash.Sum("12345678"), "a label of 8 bytes")
	add(hash.Sum("", 0x3837363534333231), "a word of the same 8 bytes")
}

// P1.1, P1.2: nil and empty are alike, arguments stay what they are, and a call leaves nothing behind.
func TestArgumentsStay(t *testing.T) {
	if hash.Sum("a") != hash.Sum("a", []int{}...) || hash.Sum("a") != hash.Sum("a", []int(nil)...) {
		t.Error("no words and an empty list differ")
	}
	if hash.Bytes("a", nil) != hash.Bytes("a", []byte{}) {
		t.Error("nil and an empty slice differ")
	}
	words := []int{1, 2, 3, 4, 5}
	b := []byte("0123456789abcdef")
	sum, bytes := hash.Sum("a", words[:3]...), hash.Bytes("a", b[:10])
	if !slices.Equal(words, []int{1, 2, 3, 4, 5}) || string(b) != "0123456789abcdef" {
		t.Error("an argument was changed", words, b)
	}
	hash.Sum("other", 9)
	hash.Bytes("other", []byte{9})
	if sum != hash.Sum("a", 1, 2, 3) || bytes != hash.Bytes("a", []byte("0123456789")) {
		t.Error("a result depends on more than its arguments")
	}
}

// P1.2: values that were computed apart from this program.
func TestBytesKnown(t *testing.T) {
	for _, c := range []struct {
		label string
		b     []byte
		want  uint64
	}{
		{"", nil, 0x9c60c22591400851},
		{"a", []byte{}, 0xaeccc2c435d70264},
		{"a", []byte{1, 2}, 0x5cd85cbd93fd0838},
		{"a", []byte{0, 1, 2, 3, 4, 5, 6, 7}, 0x65cdba68ce21f06b},
		{"a", []byte{0, 1, 2, 3, 4, 5, 6, 7, 8}, 0xbb9436e50a645103},
		{"a", make([]byte, 7), 0x88bc48bc0583ec6e},
		{"a", make([]byte, 8), 0xc8f74304dc7d41ab},
		{"a", []byte(strings.Repeat("\xff", 16)), 0x12dd23b7a1744292},
	} {
		if h := hash.Bytes(c.label, c.b); h != c.want {
			t.Errorf("Bytes(%q, %v) is %x, want %x", c.label, c.b, h, c.want)
		}
	}
}

// P1.2: the words of some byte slices, written out.
func TestBytesWords(t *testing.T) {
	for _, c := range []struct {
		b []byte
		w []int
	}{
		{nil, []int{0}},
		{[]byte{0}, []int{0, 1}},
		{[]byte{1, 2}, []int{513, 2}},
		{[]byte{1, 2, 3, 4, 5, 6, 7}, []int{0x07060504030201, 7}},
		{[]byte{1, 2, 3, 4, 5, 6, 7, 8}, []int{0x0807060504030201, 8}},
		{[]byte{0, 0, 0, 0, 0, 0, 0, 0x80}, []int{math.MinInt, 8}},
		{[]byte{255, 255, 255, 255, 255, 255, 255, 255}, []int{-1, 8}},
		{[]byte{255, 255, 255, 255, 255, 255, 255, 127}, []int{math.MaxInt, 8}},
		{[]byte{1, 0, 0, 0, 0, 0, 0, 0, 3}, []int{1, 3, 9}},
		{make([]byte, 16), []int{0, 0, 16}},
	} {
		if h, want := hash.Bytes("x", c.b), hash.Sum("x", c.w...); h != want {
			t.Errorf("Bytes of %v is %x, want %x", c.b, h, want)
		}
	}
}

// P1.2: lengths that are multiples of 8 and that are not.
func TestBytesLengths(t *testing.T) {
	r := rand.New(rand.NewPCG(2, 2))
	for n := range 100 {
		b := make([]byte, n)
		for i := range b {
			b[i] = byte(r.Uint32())
		}
		var words []int
		for _, w := range wordsOf(b) {
			words = append(words, int(w))
		}
		words = append(words, n)
		for _, label := range labels {
			if h, want := hash.Bytes(label, b), mixed(argument(label, words)); h != want {
				t.Fatalf("Bytes(%q, %v) is %x, want %x", label, b, h, want)
			}
		}
	}
}

// P1.2: zero bytes at the end count.
func TestBytesPadding(t *testing.T) {
	add := distinct(t)
	for n := range 40 {
		add(hash.Bytes("a", make([]byte, n)), "zero bytes", n)
		add(hash.Bytes("a", append([]byte{1}, make([]byte, n)...)), "1 and zero bytes", n)
	}
}

// P1.2: Pair is a sum with the label "pair".
func TestPair(t *testing.T) {
	for _, c := range [][3]uint64{
		{0, 0, 0xa37203a6cd944451},
		{1, 2, 0xd5e6a2a3a39a5df8},
		{2, 1, 0x9a705c9df9b46602},
		{1 << 63, math.MaxUint64, 0x4f9e83b9e34dbe6e},
	} {
		if h := hash.Pair(c[0], c[1]); h != c[2] {
			t.Errorf("Pair(%d, %d) is %x, want %x", c[0], c[1], h, c[2])
		}
	}
	for _, a := range edges {
		for _, b := range edges {
			if hash.Pair(uint64(a), uint64(b)) != hash.Sum("pair", a, b) {
				t.Error("Pair", a, b)
			}
		}
	}
}

// P1.3: mixing can be undone: from the sum, all words lead back to the state 0.
func TestMixingUndone(t *testing.T) {
	for _, label := range labels {
		for _, words := range lists() {
			s := hash.Sum(label, words...)
			for _, w := range slices.Backward(argument(label, words)) {
				s = unmixed(s, w)
			}
			if s != 0 {
				t.Fatalf("Sum(%q, %v) leads back to the state %x", label, words, s)
			}
		}
	}
}

// P1.3: a word is determined by the sum and the other words.
func TestWordUndone(t *testing.T) {
	for _, w := range edges {
		words := []int{7, w, -7}
		s := hash.Sum("a", words...)
		for _, x := range []int{0, -7} {
			s = unmixed(s, uint64(x))
		}
		before := mixed(append(wordsOf([]byte("a")), 1, 3, 7))
		if got := unmixed(s, 0) ^ before; got != uint64(w) {
			t.Errorf("the word %d comes back as %d", w, got)
		}
	}
}

// P1.3: lists of one length that differ in one element.
func TestOneWordDiffers(t *testing.T) {
	for _, length := range []int{1, 2, 3, 9} {
		for i := range length {
			add := distinct(t)
			words := slices.Repeat([]int{-5}, length)
			for _, w := range edges {
				words[i] = w
				add(hash.Sum("a", words...), length, i, w)
			}
			for bit := range 64 {
				words[i] = 3<<60 ^ 1<<bit
				add(hash.Sum("a", words...), length, i, "bit", bit)
			}
		}
	}
}

// P1.3: byte slices of one length that differ within one group.
func TestOneGroupDiffers(t *testing.T) {
	for n := 1; n <= 25; n++ {
		for first := 0; first < n; first += 8 {
			add := distinct(t)
			b := slices.Repeat([]byte{0xa5}, n)
			add(hash.Bytes("a", b), n, "as it was")
			for i := first; i < min(first+8, n); i++ {
				for c := range 256 {
					if b[i] = byte(c); c != 0xa5 {
						add(hash.Bytes("a", b), n, i, c)
					}
				}
				b[i] = 0xa5
			}
		}
	}
}

// P1.3: labels of one length that differ within one group.
func TestOneGroupOfLabelDiffers(t *testing.T) {
	for _, n := range []int{1, 7, 8, 9, 16, 17} {
		for first := 0; first < n; first += 8 {
			add := distinct(t)
			b := []byte(strings.Repeat("m", n))
			for i := first; i < min(first+8, n); i++ {
				for c := range 256 {
					if b[i] = byte(c); c != 'm' {
						add(hash.Sum(string(b), 1, -2), n, i, c)
					}
				}
				b[i] = 'm'
			}
		}
	}
}

// P1.4: each argument of Pair is determined by the other one and the hash.
func TestPairUndone(t *testing.T) {
	before := mixed(append(wordsOf([]byte("pair")), 4, 2))
	for _, x := range edges {
		for _, y := range edges {
			a, b := uint64(x), uint64(y)
			s := unmixed(hash.Pair(a, b), 0)
			if got := unmixed(unmixed(s, b), 0) ^ before; got != a {
				t.Errorf("Pair(%d, %d): the first comes back as %d", a, b, got)
			}
			if got := unmixed(s, 0) ^ mixed(append(wordsOf([]byte("pair")), 4, 2, a)); got != b {
				t.Errorf("Pair(%d, %d): the second comes back as %d", a, b, got)
			}
		}
	}
}

// P1.4: pairs that differ in one argument, or in the order of both.
func TestPairDistinct(t *testing.T) {
	for _, fixed := range edges {
		first, second := distinct(t), distinct(t)
		for _, x := range edges {
			first(hash.Pair(uint64(x), uint64(fixed)), x, fixed)
			second(hash.Pair(uint64(fixed), uint64(x)), fixed, x)
			if x != fixed && hash.Pair(uint64(x), uint64(fixed)) == hash.Pair(uint64(fixed), uint64(x)) {
				t.Error("the order of a pair does not count", x, fixed)
			}
		}
	}
}

// The chapter's examples.
func TestExamples(t *testing.T) {
	if hash.Sum("a", 5) == hash.Sum("a", 6) {
		t.Error("Sum of 5 and of 6")
	}
	if hash.Bytes("a", []byte{1, 2}) != hash.Sum("a", 513, 2) {
		t.Error("Bytes of 1 and 2")
	}
}
