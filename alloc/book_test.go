package alloc_test

import (
	"slices"
	"testing"

	"concourse/alloc"
	"concourse/api"
	"concourse/arena"
)

// row is a row of numbers that is the same in each run.
type row uint64

func (r *row) below(n int) int {
	*r = *r*6364136223846793005 + 1442695040888963407
	return int(uint64(*r) >> 33 % uint64(n))
}

// makeArena gives an arena of so many words and cores, each word with a number of its own, none of them 0.
func makeArena(t *testing.T, words, cores int) *arena.Arena {
	t.Helper()
	a, e := arena.New(words, cores)
	if e != api.OK {
		t.Fatalf("arena.New(%d, %d): error %d", words, cores, e)
	}
	for at := range words {
		a.Store(0, at, ownNumber(at))
	}
	a.Clear(0)
	return a
}

// ownNumber has high and low bits set, of every place others.
func ownNumber(at int) int {
	return -1 - at*0x1_0001_0001
}

// allWords reads every word; it leaves core 0's trace empty.
func allWords(a *arena.Arena) []int {
	words := make([]int, a.Words())
	for at := range words {
		words[at], _ = a.Load(0, at)
	}
	a.Clear(0)
	return words
}

// piece is words that a core has.
type piece struct{ core, at, size int }

// count is what the chapter counts a piece for.
func (p piece) count() int { return p.size + 2 }

// book is what the chapter says an allocator keeps, kept once more, in the plainest way.
type book struct {
	t           *testing.T
	a           *arena.Arena
	x           *alloc.Alloc
	from, words int
	pieces      []piece
	owned       []bool
}

// makeBook gives a book of an allocator over a part of an arena of its own, whose words are not 0.
func makeBook(t *testing.T, arenaWords, cores, from, words int) *book {
	t.Helper()
	a := makeArena(t, arenaWords, cores)
	x, e := alloc.New(a, from, words)
	if e != api.OK || x == nil {
		t.Fatalf("New of %d cores, from %d, %d words: error %d", cores, from, words, e)
	}
	return &book{t: t, a: a, x: x, from: from, words: words, owned: make([]bool, arenaWords)}
}

// share is how many words each core has.
func (b *book) share() int { return b.words / b.a.Cores() }

// load is what all that a core has counts for.
func (b *book) load(core int) int {
	sum := 0
	for _, p := range b.pieces {
		if p.core == core {
			sum += p.count()
		}
	}
	return sum
}

// left asks Left, which must be within its bounds.
func (b *book) left(core int) int {
	b.t.Helper()
	left := b.x.Left(core)
	if left < 0 || left > b.share() {
		b.t.Fatalf("core %d: Left %d of a share of %d", core, left, b.share())
	}
	return left
}

// get gets a piece, and holds the answer against the book; false, if it was refused, as it may be.
func (b *book) get(core, size int) (piece, bool) {
	b.t.Helper()
	before := b.left(core)
	at, e := b.x.Get(core, size)
	p := piece{core, at, size}
	if e == api.ErrAllocFull && b.load(core)+p.count() > b.share()/4 {
		if at != 0 || b.left(core) != before {
			b.t.Fatalf("core %d, size %d: refused with %d, Left %d, then %d", core, size, at, before, b.left(core))
		}
		return piece{}, false
	}
	if e != api.OK {
		b.t.Fatalf("core %d, size %d: error %d, though a load of %d is not above %d / 4", core, size, e, b.load(core)+p.count(), b.share())
	}
	if after := b.left(core); after > before-size {
		b.t.Fatalf("core %d, size %d: Left %d, then %d", core, size, before, after)
	}
	b.enter(p)
	return p, true
}

// enter notes a piece that was given: within the words, nobody's, all 0. Its words are then written to.
func (b *book) enter(p piece) {
	b.t.Helper()
	if p.at < b.from || p.at+p.size > b.from+b.words {
		b.t.Fatalf("%v is not within %d to %d", p, b.from, b.from+b.words-1)
	}
	for at := p.at; at < p.at+p.size; at++ {
		if b.owned[at] {
			b.t.Fatalf("%v: somebody has word %d", p, at)
		}
		b.owned[at] = true
		if v, _ := b.a.Load(p.core, at); v != 0 {
			b.t.Fatalf("%v: word %d is %d", p, at, v)
		}
		b.a.Store(p.core, at, ownNumber(at))
	}
	b.pieces = append(b.pieces, p)
}

// free frees a piece, whose words must be as they were written.
func (b *book) free(p piece) {
	b.t.Helper()
	b.wantKept(p)
	if e := b.x.Free(p.core, p.at); e != api.OK {
		b.t.Fatalf("Free of %v: error %d", p, e)
	}
	for at := p.at; at < p.at+p.size; at++ {
		b.owned[at] = false
	}
	k := slices.Index(b.pieces, p)
	b.pieces = slices.Delete(b.pieces, k, k+1)
}

// wantKept fails if a piece's words are not as they were written.
func (b *book) wantKept(p piece) {
	b.t.Helper()
	for at := p.at; at < p.at+p.size; at++ {
		if v, _ := b.a.Load(p.core, at); v != ownNumber(at) {
			b.t.Fatalf("%v: word %d is %d", p, at, v)
		}
	}
}

// close fails if a piece's words, or words outside, are not as they were written.
func (b *book) close() {
	b.t.Helper()
	for _, p := range b.pieces {
		b.wantKept(p)
	}
	for at, v := range allWords(b.a) {
		if (at < b.from || at >= b.from+b.words) && v != ownNumber(at) {
			b.t.Fatalf("word %d, outside %d to %d, is %d", at, b.from, b.from+b.words-1, v)
		}
	}
}

// fill gets pieces of one size until one is refused.
func (b *book) fill(core, size int) []piece {
	b.t.Helper()
	var got []piece
	for {
		p, ok := b.get(core, size)
		if !ok {
			return got
		}
		got = append(got, p)
	}
}
