package alloc

import (
	"math/bits"
)

// groupWords is how many words of a heap make a group. No piece lies in two of
// them, so each group has its bits in two words: those that a piece has, and
// those at which one begins.
const groupWords = 32

// groups tells how many groups a share has. The last one may have fewer words,
// but is none, unless its own two words leave it one.
func (s share) groups() int {
	return (s.words - 1 + groupWords - 1) / (groupWords + 2)
}

// taken reads which words of a group a piece has.
func (s share) taken(i int) uint32 {
	return uint32(s.read(s.takenAt(i)))
}

// begins reads at which words of a group a piece begins.
func (s share) begins(i int) uint32 {
	return uint32(s.read(s.beginsAt(i)))
}

// missing tells which words of a group the heap ends ahead of.
func (s share) missing(i int) uint32 {
	has := s.end() - s.heap() - i*groupWords
	return ^ones(min(has, groupWords))
}

// take notes a new piece.
func (s share) take(i int, bit int, size int) {
	s.store(s.takenAt(i), int(s.taken(i)|ones(size)<<bit))
	s.store(s.beginsAt(i), int(s.begins(i)|1<<bit))
}

// drop forgets a piece, and tells its size: it goes on till a word that nobody has, or where the next one begins.
func (s share) drop(i int, bit int) int {
	taken, others := s.taken(i), s.begins(i)&^(1<<bit)
	size := bits.TrailingZeros32(^((taken &^ others) >> bit))
	s.store(s.takenAt(i), int(taken&^(ones(size)<<bit)))
	s.store(s.beginsAt(i), int(others))
	return size
}

// takenAt and beginsAt are the places of a group's two words.
func (s share) takenAt(i int) int {
	return s.at + 1 + 2*i
}

func (s share) beginsAt(i int) int {
	return s.at + 2 + 2*i
}

// fit gives the first place in a group at which a piece of that size may be put.
func fit(taken uint32, size int) (int, bool) {
	step := 1 << bits.Len(uint(size-1))
	for bit := 0; bit < groupWords; bit += step {
		if taken>>bit&ones(size) == 0 {
			return bit, true
		}
	}
	return 0, false
}

// ones has its n lowest bits set.
func ones(n int) uint32 {
	return uint32(1<<n - 1)
}
