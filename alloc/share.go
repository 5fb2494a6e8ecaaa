package alloc

import (
	"concourse/api"
	"concourse/arena"
)

// share is a core's part of the words; that core alone touches it. Its first
// word is its load: what its pieces count for. Then each group of its heap has
// two words, and the heap is the rest.
//
// A piece is put at the first multiple of the least power of 2 that is not
// below its size, so that small pieces do not lie across the places of great
// ones: then a heap of nearly four times the greatest load has room for all
// that this load allows, in whatever row pieces come and go (TestHeapHasRoom
// reckons it for every share). A load above a quarter is refused even if there
// is room: what stays of it might lie in the way of a later piece that must be
// given.
type share struct {
	a     *arena.Arena
	core  int
	at    int
	words int
}

// clear lets the share have no piece, whatever its words were.
func (s share) clear() {
	for at := s.at; at < s.heap(); at++ {
		s.store(at, 0)
	}
}

// get gives the first of so many words that are no piece's, or ErrAllocFull.
func (s share) get(size int) (int, api.Errno) {
	load := s.load()
	if load+size+extra > s.most() {
		return 0, api.ErrAllocFull
	}
	for i := range s.groups() {
		if bit, ok := fit(s.taken(i)|s.missing(i), size); ok {
			s.take(i, bit, size)
			s.store(s.at, load+size+extra)
			at := s.heap() + i*groupWords + bit
			s.wipe(at, size)
			return at, api.OK
		}
	}
	return 0, api.ErrAllocFull
}

// free takes back the piece that begins at a place, or answers ErrAllocPlace.
func (s share) free(at int) api.Errno {
	if at < s.heap() || at >= s.end() {
		return api.ErrAllocPlace
	}
	i, bit := (at-s.heap())/groupWords, (at-s.heap())%groupWords
	if s.begins(i)>>bit&1 == 0 {
		return api.ErrAllocPlace
	}
	size := s.drop(i, bit)
	s.store(s.at, s.load()-size-extra)
	return api.OK
}

// left tells how many words may still be got: the fewer the pieces, the more.
func (s share) left() int {
	rest := s.most() - s.load()
	const whole = mostWords + extra
	return rest/whole*mostWords + max(rest%whole-extra, 0)
}

// most is the greatest load.
func (s share) most() int {
	return s.words / 4
}

// load reads what the pieces count for. It is no more and no less than it can
// be, so that whatever somebody stored there leads to no sum that wraps.
func (s share) load() int {
	return min(max(s.read(s.at), 0), s.most())
}

// heap is the place of the heap's first word.
func (s share) heap() int {
	return s.at + 1 + 2*s.groups()
}

// end is the place behind the heap's last word: one or two words more may be too few for a group.
func (s share) end() int {
	return min(s.at+s.words, s.heap()+s.groups()*groupWords)
}

// wipe lets so many words be 0.
func (s share) wipe(at int, size int) {
	for w := range size {
		s.store(at+w, 0)
	}
}

// read gives a word of the share; the arena has all of them, so it refuses none.
func (s share) read(at int) int {
	v, _ := s.a.Load(s.core, at)
	return v
}

// store writes a word of the share.
func (s share) store(at int, v int) {
	s.a.Store(s.core, at, v)
}
