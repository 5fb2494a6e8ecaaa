package radix_test

import (
	"slices"
	"testing"

	"concourse/api"
	"concourse/arena"
	"concourse/radix"
)

const leastWords = 128 // as the chapter says

// row is a row of numbers that is the same in each run.
type row uint64

func (r *row) below(n int) int {
	*r = *r*6364136223846793005 + 1442695040888963407
	return int(uint64(*r) >> 33 % uint64(n))
}

// book is a tree with the plainest thing that keeps the chapter beside it, each call held against that.
type book struct {
	t           *testing.T
	a           *arena.Arena
	r           *radix.Radix
	plain       [api.MaxPages]int
	from, words int
}

// makeBook gives a tree of so many words within an arena that has so many ahead of them and behind them, none of them 0.
func makeBook(t *testing.T, cores, ahead, words, behind int) *book {
	t.Helper()
	a := makeArena(t, ahead+words+behind, cores)
	r, e := radix.New(a, ahead, words)
	if e != api.OK || r == nil {
		t.Fatalf("New of %d cores, from %d, %d words: error %d", cores, ahead, words, e)
	}
	b := &book{t: t, a: a, r: r, from: ahead, words: words}
	b.want()
	return b
}

// makeArena gives an arena of so many words and cores, each word with a number of its own, none of them 0.
func makeArena(t *testing.T, words, cores int) *arena.Arena {
	t.Helper()
	a, e := arena.New(words, cores)
	if e != api.OK {
		t.Fatalf("arena.New(%d, %d): error %d", words, cores, e)
	}
	for at := range words {
		a.Store(0, at, ownNumber(at))
	}
	a.Clear(0)
	return a
}

// ownNumber has high and low bits set, of every place others.
func ownNumber(at int) int { return -1 - at*0x1_0001_0001 }

// clearTraces forgets what every core touched.
func clearTraces(a *arena.Arena) {
	for core := range a.Cores() {
		a.Clear(core)
	}
}

// allWords reads every word; it leaves the traces empty.
func allWords(a *arena.Arena) []int {
	words := make([]int, a.Words())
	for at := range words {
		words[at], _ = a.Load(0, at)
	}
	clearTraces(a)
	return words
}

func (b *book) set(core, page, v int) {
	b.t.Helper()
	if e := b.r.Set(core, page, v); e != api.OK {
		b.t.Fatalf("Set(%d, %d, %d): error %d", core, page, v, e)
	}
	b.plain[page] = v
	b.want()
}

func (b *book) cut(core, page int) {
	b.t.Helper()
	if e := b.r.Cut(core, page); e != api.OK {
		b.t.Fatalf("Cut(%d, %d): error %d", core, page, e)
	}
	for p := page; p < api.MaxPages; p++ {
		b.plain[p] = 0
	}
	b.want()
}

// setAll gives every page a number of its own.
func (b *book) setAll(core, v int) {
	b.t.Helper()
	for page := range api.MaxPages {
		b.set(core, page, v+page)
	}
}

// want fails unless every core is told all that the plain pages hold.
func (b *book) want() {
	b.t.Helper()
	var pages []int
	for page, v := range b.plain {
		if v != 0 {
			pages = append(pages, page)
		}
	}
	for core := range b.a.Cores() {
		for page, v := range b.plain {
			if got, e := b.r.Get(core, page); got != v || e != api.OK {
				b.t.Fatalf("Get(%d, %d): %d, error %d, want %d", core, page, got, e, v)
			}
		}
		if got := b.r.Pages(core); !slices.Equal(got, pages) {
			b.t.Fatalf("Pages(%d): %v, want %v", core, got, pages)
		}
	}
}

// wantPages fails unless just these pages have not 0; the plain pages are held against it too.
func (b *book) wantPages(pages ...int) {
	b.t.Helper()
	b.want()
	if got := b.r.Pages(0); !slices.Equal(got, pages) {
		b.t.Fatalf("Pages %v, want %v", got, pages)
	}
}

// close fails if words ahead of the tree's or behind them were written to.
func (b *book) close() {
	b.t.Helper()
	for at, v := range allWords(b.a) {
		if (at < b.from || at >= b.from+b.words) && v != ownNumber(at) {
			b.t.Fatalf("word %d, outside %d to %d, is %d", at, b.from, b.from+b.words-1, v)
		}
	}
}
