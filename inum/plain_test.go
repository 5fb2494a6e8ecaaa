package inum_test

import (
	"slices"
	"testing"

	"concourse/api"
	"concourse/arena"
	"concourse/inum"
)

// row is a row of numbers that is the same in each run.
type row uint64

func (r *row) below(n int) int {
	*r = *r*6364136223846793005 + 1442695040888963407
	return int(uint64(*r) >> 33 % uint64(n))
}

// book is Nums with, beside them, how many numbers each core was given: each Next is held against that.
type book struct {
	t     *testing.T
	a     *arena.Arena
	x     *inum.Nums
	from  int
	given []int // by core
}

// makeBook gives Nums within an arena that has so many words ahead of theirs and behind them, none of them 0.
func makeBook(t *testing.T, cores, ahead, behind int) *book {
	t.Helper()
	return bookAt(t, makeArena(t, ahead+cores+behind, cores), ahead)
}

// bookAt gives Nums within an arena, from a word on.
func bookAt(t *testing.T, a *arena.Arena, from int) *book {
	t.Helper()
	x, e := inum.New(a, from)
	if e != api.OK || x == nil {
		t.Fatalf("New of %d words, %d cores, from %d: error %d", a.Words(), a.Cores(), from, e)
	}
	return &book{t: t, a: a, x: x, from: from, given: make([]int, a.Cores())}
}

// makeArena gives an arena of so many words and cores, each word with a number of its own, none of them 0.
func makeArena(t *testing.T, words, cores int) *arena.Arena {
	t.Helper()
	a, e := arena.New(words, cores)
	if e != api.OK {
		t.Fatalf("arena.New(%d, %d): error %d", words, cores, e)
	}
	for at := range words {
		a.Store(0, at, ownNumber(at))
	}
	a.Clear(0)
	return a
}

// ownNumber is small and above 0 at some places, and has high bits set at others.
func ownNumber(at int) int {
	if at%2 == 0 {
		return 1 + at%40
	}
	return -1 - at*0x1_0001_0001
}

// clearTraces forgets what every core touched.
func clearTraces(a *arena.Arena) {
	for core := range a.Cores() {
		a.Clear(core)
	}
}

// allWords reads every word; it leaves the traces empty.
func allWords(a *arena.Arena) []int {
	words := make([]int, a.Words())
	for at := range words {
		words[at], _ = a.Load(0, at)
	}
	clearTraces(a)
	return words
}

// next takes a core's next number, and holds it against the chapter's words.
func (b *book) next(core int) int {
	b.t.Helper()
	want, wantErr := 2+core+8*b.given[core], api.OK
	if b.given[core] == 32 {
		want, wantErr = 0, api.ErrInumFull
	} else {
		b.given[core]++
	}
	num, e := b.x.Next(core)
	if num != want || e != wantErr {
		b.t.Fatalf("Next(%d): %d, error %d, want %d, error %d", core, num, e, want, wantErr)
	}
	return num
}

// fill takes all numbers that the cores still have, core by core, and one more of each: what they were given shows.
func (b *book) fill() {
	b.t.Helper()
	for core := range b.given {
		for b.given[core] < 32 {
			b.next(core)
		}
		b.next(core)
	}
}

// close fails if words ahead of the counters or behind them were written to.
func (b *book) close() {
	b.t.Helper()
	for at, v := range allWords(b.a) {
		if (at < b.from || at >= b.from+len(b.given)) && v != ownNumber(at) {
			b.t.Fatalf("word %d, outside %d to %d, is %d", at, b.from, b.from+len(b.given)-1, v)
		}
	}
}

// wantQuiet fails if any access is noted or a word is another than it was.
func wantQuiet(t *testing.T, a *arena.Arena, words []int) {
	t.Helper()
	for core := range a.Cores() {
		if trace := a.Trace(core); len(trace) != 0 {
			t.Errorf("core %d touched %v", core, trace)
		}
	}
	if !slices.Equal(allWords(a), words) {
		t.Error("a refused call wrote")
	}
}
