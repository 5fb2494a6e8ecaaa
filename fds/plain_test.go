package fds_test

import (
	"math"
	"slices"
	"testing"

	"concourse/api"
	"concourse/arena"
	"concourse/fds"
)

// row is a row of numbers that is the same in each run.
type row uint64

func (r *row) below(n int) int {
	*r = *r*6364136223846793005 + 1442695040888963407
	return int(uint64(*r) >> 33 % uint64(n))
}

// num is a number from 1 on: mostly a small one, so that descriptors often have one in common, and at times a far one.
func (r *row) num() int {
	far := []int{1, 257, math.MaxInt32, 1 << 32, 1<<62 + 1, math.MaxInt - 1, math.MaxInt}
	if r.below(4) == 0 {
		return far[r.below(len(far))]
	}
	return 1 + r.below(6)
}

// book is Fds with, beside them, what each core has: each call is held against that.
type book struct {
	t    *testing.T
	a    *arena.Arena
	f    *fds.Fds
	from int
	has  []map[int]int // by core: numbers by descriptor
}

// makeBook gives Fds within an arena that has so many words ahead of theirs and behind them, none of them 0.
func makeBook(t *testing.T, cores, ahead, behind int) *book {
	t.Helper()
	return bookAt(t, makeArena(t, ahead+4*cores+behind, cores), ahead)
}

// bookAt gives Fds within an arena, from a word on.
func bookAt(t *testing.T, a *arena.Arena, from int) *book {
	t.Helper()
	f, e := fds.New(a, from)
	if e != api.OK || f == nil {
		t.Fatalf("New of %d words, %d cores, from %d: error %d", a.Words(), a.Cores(), from, e)
	}
	b := &book{t: t, a: a, f: f, from: from}
	for range a.Cores() {
		b.has = append(b.has, map[int]int{})
	}
	return b
}

// makeArena gives an arena of so many words and cores, each word with a number of its own, none of them 0.
func makeArena(t *testing.T, words, cores int) *arena.Arena {
	t.Helper()
	a, e := arena.New(words, cores)
	if e != api.OK {
		t.Fatalf("arena.New(%d, %d): error %d", words, cores, e)
	}
	for at := range words {
		a.Store(0, at, ownNumber(at))
	}
	a.Clear(0)
	return a
}

// ownNumber is small and above 0 at some places, and has high bits set at others.
func ownNumber(at int) int {
	if at%2 == 0 {
		return 1 + at%40
	}
	return -1 - at*0x1_0001_0001
}

// clearTraces forgets what every core touched.
func clearTraces(a *arena.Arena) {
	for core := range a.Cores() {
		a.Clear(core)
	}
}

// allWords reads every word; it leaves the traces empty.
func allWords(a *arena.Arena) []int {
	words := make([]int, a.Words())
	for at := range words {
		words[at], _ = a.Load(0, at)
	}
	clearTraces(a)
	return words
}

// open opens a descriptor of a core, and holds it against the chapter's words.
func (b *book) open(core, num int) int {
	b.t.Helper()
	fd, e := b.f.Open(core, num)
	if len(b.has[core]) == 4 {
		if fd != 0 || e != api.ErrFdsFull {
			b.t.Fatalf("Open(%d, %d), full: %d, error %d", core, num, fd, e)
		}
		return fd
	}
	if _, had := b.has[core][fd]; had || fd < 0 || fd > 3 || e != api.OK {
		b.t.Fatalf("Open(%d, %d): %d, error %d, where it has %v", core, num, fd, e, b.has[core])
	}
	b.has[core][fd] = num
	return fd
}

// get asks for a descriptor's number.
func (b *book) get(core, fd int) {
	b.t.Helper()
	want, wantErr := 0, api.ErrFdsNone
	if num, had := b.has[core][fd]; had {
		want, wantErr = num, api.OK
	}
	if num, e := b.f.Get(core, fd); num != want || e != wantErr {
		b.t.Fatalf("Get(%d, %d): %d, error %d, want %d, error %d", core, fd, num, e, want, wantErr)
	}
}

// close closes a descriptor.
func (b *book) close(core, fd int) {
	b.t.Helper()
	want := api.ErrFdsNone
	if _, had := b.has[core][fd]; had {
		want = api.OK
		delete(b.has[core], fd)
	}
	if e := b.f.Close(core, fd); e != want {
		b.t.Fatalf("Close(%d, %d): error %d, want %d", core, fd, e, want)
	}
}

// list asks for all that a core has.
func (b *book) list(core int) {
	b.t.Helper()
	if got, want := b.f.List(core), b.wantList(core); !slices.Equal(got, want) {
		b.t.Fatalf("List(%d): %v, want %v", core, got, want)
	}
}

// wantList is what a core has, by Fd rising.
func (b *book) wantList(core int) []api.Desc {
	var want []api.Desc
	for fd := range 4 {
		if num, had := b.has[core][fd]; had {
			want = append(want, api.Desc{Core: core, Fd: fd, Num: num})
		}
	}
	return want
}

// look asks for all that each core has, in both ways.
func (b *book) look() {
	b.t.Helper()
	for core := range b.has {
		b.list(core)
		for fd := -1; fd <= 4; fd++ {
			b.get(core, fd)
		}
	}
}

// any does some call of a core.
func (b *book) any(g *row, core int) {
	b.t.Helper()
	switch g.below(6) {
	case 0, 1, 2:
		b.open(core, g.num())
	case 3:
		b.get(core, g.below(7)-1)
	case 4:
		b.close(core, g.below(7)-1)
	case 5:
		b.list(core)
	}
}

// fill opens all that the cores have not, each for a number of its own, and one more of each.
func (b *book) fill() {
	b.t.Helper()
	for core := range b.has {
		for len(b.has[core]) < 4 {
			b.open(core, 1000+10*core+len(b.has[core]))
		}
		b.open(core, 7)
	}
}

// end fills and looks, closes all and looks, and looks at the words outside.
func (b *book) end() {
	b.t.Helper()
	b.look()
	b.fill()
	b.look()
	for core := range b.has {
		for fd := range 4 {
			b.close(core, fd)
		}
	}
	b.look()
	b.wantOutsideKept()
}

// wantOutsideKept fails if words ahead of those of the Fds or behind them were written to.
func (b *book) wantOutsideKept() {
	b.t.Helper()
	for at, v := range allWords(b.a) {
		if (at < b.from || at >= b.from+4*len(b.has)) && v != ownNumber(at) {
			b.t.Fatalf("word %d, outside %d to %d, is %d", at, b.from, b.from+4*len(b.has)-1, v)
		}
	}
}

// wantQuiet fails if any access is noted or a word is another than it was.
func wantQuiet(t *testing.T, a *arena.Arena, words []int) {
	t.Helper()
	for core := range a.Cores() {
		if trace := a.Trace(core); len(trace) != 0 {
			t.Errorf("core %d touched %v", core, trace)
		}
	}
	if !slices.Equal(allWords(a), words) {
		t.Error("a refused call wrote")
	}
}
