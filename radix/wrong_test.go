package radix_test

import (
	"math"
	"slices"
	"testing"

	"concourse/api"
	"concourse/arena"
	"concourse/radix"
)

// wantQuiet fails if any access is noted or a word is another than it was.
func wantQuiet(t *testing.T, a *arena.Arena, words []int) {
	t.Helper()
	for core := range a.Cores() {
		if trace := a.Trace(core); len(trace) != 0 {
			t.Errorf("core %d touched %v", core, trace)
		}
	}
	if !slices.Equal(allWords(a), words) {
		t.Error("a refused call wrote")
	}
}

// P7.1, R6: trees that are refused; nothing is touched.
func TestNewRefuses(t *testing.T) {
	a := makeArena(t, 200, 2)
	words := allWords(a)
	rows := [][2]int{
		{-1, 128}, {-1, 200}, {-2, 130}, {-200, 128}, {math.MinInt, 128}, {math.MinInt + 1, 200}, {-1, 0}, {-1, 500},
		{0, 127}, {0, 126}, {0, 64}, {0, 20}, {0, 16}, {0, 1}, {0, 0}, {0, -1}, {0, -128}, {0, math.MinInt}, {5, 127}, {73, 127},
		{0, 201}, {1, 200}, {73, 128}, {72, 129}, {100, 128}, {199, 128}, {200, 128}, {201, 128}, {328, 128}, {200, 0}, {200, -1},
		{0, math.MaxInt}, {1, math.MaxInt}, {0, 1 << 62}, {math.MaxInt, 128}, {math.MaxInt - 127, 128}, {math.MaxInt - 100, 128},
		{1 << 62, 1 << 62}, {math.MaxInt, math.MaxInt}, {1 << 32, 128},
	}
	for _, c := range rows {
		if r, e := radix.New(a, c[0], c[1]); r != nil || e != api.ErrRadixForm {
			t.Errorf("from %d, %d words: error %d", c[0], c[1], e)
		}
		if r, e := radix.New(nil, c[0], c[1]); r != nil || e != api.ErrNil {
			t.Errorf("no arena, from %d, %d words: error %d", c[0], c[1], e)
		}
	}
	if r, e := radix.New(nil, 0, 128); r != nil || e != api.ErrNil {
		t.Errorf("no arena: error %d", e)
	}
	wantQuiet(t, a, words)
	for _, c := range [][2]int{{0, 128}, {72, 128}, {0, 200}, {1, 199}} {
		if r, e := radix.New(a, c[0], c[1]); r == nil || e != api.OK {
			t.Errorf("from %d, %d words: error %d", c[0], c[1], e)
		}
	}
}

// P7.1: an arena of just 128 words, and of one word fewer.
func TestLeastArena(t *testing.T) {
	for cores := 1; cores <= api.MaxCores; cores++ {
		a := makeArena(t, 127, cores)
		words := allWords(a)
		for _, n := range []int{126, 127, 128} {
			if r, e := radix.New(a, 0, n); r != nil || e != api.ErrRadixForm {
				t.Errorf("%d words of 127: error %d", n, e)
			}
		}
		wantQuiet(t, a, words)
		makeBook(t, cores, 0, 128, 0).setAll(cores-1, 1)
	}
}

// wrong are numbers of things, of which there are n, that are none.
func wrong(n int) []int {
	return []int{-1, -2, -16, n, n + 1, n + 16, 1 << 32, math.MinInt, math.MinInt + 1, math.MaxInt, math.MaxInt - 1}
}

// wantRefused fails unless Set, Get and Cut answer this error, and Get no number.
func wantRefused(b *book, core, page, v int, want api.Errno) {
	b.t.Helper()
	got, e := b.r.Get(core, page)
	set, cut := b.r.Set(core, page, v), b.r.Cut(core, page)
	if got != 0 || e != want || set != want || cut != want {
		b.t.Errorf("core %d, page %d, number %d: Get %d, error %d, Set %d, Cut %d, want %d", core, page, v, got, e, set, cut, want)
	}
}

// P7.1, R6: cores, pages and numbers that there are not, which error comes first; no word changes, nothing is noted.
func TestWrongInputs(t *testing.T) {
	for _, cores := range []int{1, 2, api.MaxCores} {
		b := makeBook(t, cores, 7, 131, 9)
		b.setAll(cores-1, 3)
		b.set(0, 6, 0)
		words := allWords(b.a)
		for _, core := range wrong(cores) {
			for _, page := range append(wrong(api.MaxPages), 0, 3, 15) {
				for _, v := range []int{0, 1, -1, math.MinInt, math.MaxInt} {
					wantRefused(b, core, page, v, api.ErrRadixForm)
				}
			}
			if pages := b.r.Pages(core); len(pages) != 0 {
				t.Errorf("Pages of core %d: %v", core, pages)
			}
		}
		for core := range cores {
			wantWrongPages(b, core)
			wantWrongNumbers(b, core)
		}
		wantQuiet(t, b.a, words)
		b.want()
		b.close()
	}
}

// wantWrongPages: MaxPages itself is no page, but may be cut from.
func wantWrongPages(b *book, core int) {
	b.t.Helper()
	for _, page := range wrong(api.MaxPages) {
		for _, v := range []int{0, 5, math.MaxInt} {
			if page != api.MaxPages {
				wantRefused(b, core, page, v, api.ErrRadixPage)
			}
			if e := b.r.Set(core, page, v); e != api.ErrRadixPage {
				b.t.Errorf("Set(%d, %d, %d): error %d", core, page, v, e)
			}
		}
		if got, e := b.r.Get(core, page); got != 0 || e != api.ErrRadixPage {
			b.t.Errorf("Get(%d, %d): %d, error %d", core, page, got, e)
		}
	}
}

// wantWrongNumbers: a number below 0 is told ahead of a page that there is not.
func wantWrongNumbers(b *book, core int) {
	b.t.Helper()
	for _, v := range []int{-1, -2, -1 << 32, math.MinInt, math.MinInt + 1} {
		for _, page := range append(wrong(api.MaxPages), 0, 6, 15) {
			if e := b.r.Set(core, page, v); e != api.ErrRadixForm {
				b.t.Errorf("Set(%d, %d, %d): error %d", core, page, v, e)
			}
		}
	}
}

// P7.1: Cut of MaxPages is not refused, and cuts nothing; one behind is.
func TestCutBehindTheLast(t *testing.T) {
	b := makeBook(t, 1, 0, leastWords, 0)
	b.setAll(0, 1)
	b.cut(0, api.MaxPages)
	if got := b.r.Pages(0); len(got) != api.MaxPages {
		t.Errorf("Pages %v", got)
	}
	if e := b.r.Cut(0, api.MaxPages+1); e != api.ErrRadixPage {
		t.Errorf("error %d", e)
	}
	b.want()
}

// R3: no tree.
func TestNilRadix(t *testing.T) {
	var none *radix.Radix
	for _, core := range []int{0, 1, -1, 8, math.MaxInt, math.MinInt} {
		for _, page := range []int{0, 15, -1, 16, 17, math.MinInt} {
			got, e := none.Get(core, page)
			if got != 0 || e != api.ErrNil || none.Cut(core, page) != api.ErrNil {
				t.Errorf("core %d, page %d: %d, error %d", core, page, got, e)
			}
			if none.Set(core, page, 1) != api.ErrNil || none.Set(core, page, -1) != api.ErrNil {
				t.Errorf("core %d, page %d: not ErrNil", core, page)
			}
		}
		if pages := none.Pages(core); len(pages) != 0 {
			t.Errorf("Pages %v", pages)
		}
	}
}

// R1: a tree that New did not make has no core; an arena that was not made has no room.
func TestRadixThatWasNotMade(t *testing.T) {
	r := new(radix.Radix)
	got, e := r.Get(0, 0)
	if got != 0 || e != api.ErrRadixForm || r.Set(0, 0, 1) != api.ErrRadixForm || r.Cut(0, 0) != api.ErrRadixForm {
		t.Errorf("Get %d, error %d", got, e)
	}
	if pages := r.Pages(0); len(pages) != 0 {
		t.Errorf("Pages %v", pages)
	}
	if r, e := radix.New(new(arena.Arena), 0, leastWords); r != nil || e != api.ErrRadixForm {
		t.Errorf("a bare arena: error %d", e)
	}
}

// R1: whatever somebody stores into the tree's words, the calls end, and touch nothing outside.
func TestWordsThatSomebodyStoredTo(t *testing.T) {
	for seed := range 40 {
		g := row(seed)
		cores := 1 + g.below(api.MaxCores)
		b := makeBook(t, cores, 10, leastWords, 10)
		for range 40 {
			for at := b.from; at < b.from+b.words; at++ {
				v := []int{0, 1, 4, 5, 128, -1, math.MaxInt, math.MinInt, g.below(1 << 30)}[g.below(9)]
				b.a.Store(0, at, v)
			}
			clearTraces(b.a)
			core, page := g.below(cores), g.below(api.MaxPages)
			if _, e := b.r.Get(core, page); e != api.OK {
				t.Errorf("Get: error %d", e)
			}
			if pages := b.r.Pages(core); !slices.IsSorted(pages) || len(pages) > api.MaxPages {
				t.Errorf("Pages %v", pages)
			}
			if e, f := b.r.Set(core, page, g.below(99)), b.r.Cut(core, page); e != api.OK || f != api.OK {
				t.Errorf("errors %d, %d", e, f)
			}
			for _, access := range b.a.Trace(core) {
				if access.At < b.from || access.At >= b.from+b.words {
					t.Fatalf("word %d, outside, was touched", access.At)
				}
			}
		}
		b.close()
	}
}
