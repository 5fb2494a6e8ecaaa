package journal

import (
	"iter"
)

const (
	wordBytes = 8
	byteBits  = 8
)

// packed gives a text's bytes as words, the first byte lowest; the last word is filled up with zeros.
func packed(s string) iter.Seq[uint64] {
	return func(yield func(uint64) bool) {
		for at := 0; at < len(s); at += wordBytes {
			if !yield(pack(s[at:min(at+wordBytes, len(s))])) {
				return
			}
		}
	}
}

// pack gives up to wordBytes bytes as a word.
func pack(s string) uint64 {
	word := uint64(0)
	for at := range len(s) {
		word |= uint64(s[at]) << (byteBits * at)
	}
	return word
}

// unpack puts a word's bytes behind others.
func unpack(bytes []byte, word uint64) []byte {
	for range wordBytes {
		bytes = append(bytes, byte(word))
		word >>= byteBits
	}
	return bytes
}
