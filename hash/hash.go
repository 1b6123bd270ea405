// Package hash is layer 1: see shared/doc/01-hash.md.
package hash

import "iter"

// factor is odd: multiplying by it can be undone modulo 2^64, which makes mixing a bijection.
const factor = 0x9E3779B97F4A7C15

// wordSize is the number of bytes in a word.
const wordSize = 8

// Sum returns the hash of a label and integers.
func Sum(label string, words ...int) uint64 {
	var state uint64
	for w := range groups([]byte(label)) {
		state = mix(state, w)
	}
	// With both lengths, what belongs to the label cannot pass for an element of words.
	state = mix(state, uint64(len(label)))
	state = mix(state, uint64(len(words)))
	for _, w := range words {
		state = mix(state, uint64(w))
	}
	return mix(state, 0)
}

// Bytes returns the hash of a label and bytes.
func Bytes(label string, b []byte) uint64 {
	words := make([]int, 0, len(b)/wordSize+2)
	for w := range groups(b) {
		words = append(words, int(w))
	}
	// The length tells a padded group from one that ends with zero bytes of its own.
	return Sum(label, append(words, len(b))...)
}

// Pair returns the hash of two hashes.
func Pair(a, b uint64) uint64 {
	return Sum("pair", int(a), int(b))
}

// mix returns the state after a word is mixed in.
func mix(state, word uint64) uint64 {
	m := (state ^ word) * factor
	return m ^ (m >> 32)
}

// groups yields the words of a byte slice.
func groups(b []byte) iter.Seq[uint64] {
	return func(yield func(uint64) bool) {
		for i := 0; i < len(b); i += wordSize {
			if !yield(littleEndian(b[i:min(i+wordSize, len(b))])) {
				return
			}
		}
	}
}

// littleEndian reads a group of at most 8 bytes; the bytes that it lacks are the high ones, so they need no padding.
func littleEndian(group []byte) uint64 {
	var w uint64
	for i, c := range group {
		w |= uint64(c) << (8 * i)
	}
	return w
}
