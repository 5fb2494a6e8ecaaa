package arena_test

import (
	"math"
	"slices"
	"testing"

	"concourse/api"
	"concourse/arena"
)

// makeArena gives an arena of so many words and cores.
func makeArena(t *testing.T, words, cores int) *arena.Arena {
	t.Helper()
	a, e := arena.New(words, cores)
	if e != api.OK || a == nil {
		t.Fatalf("New(%d, %d): error %d", words, cores, e)
	}
	return a
}

// wantTrace fails if a core's trace is not this.
func wantTrace(t *testing.T, a *arena.Arena, core int, want ...api.Access) {
	t.Helper()
	if got := a.Trace(core); !slices.Equal(got, want) {
		t.Errorf("trace of core %d: %v, want %v", core, got, want)
	}
}

// wantWord fails if a word is not this; it leaves core 0's trace empty.
func wantWord(t *testing.T, a *arena.Arena, at, want int) {
	t.Helper()
	if got, e := a.Load(0, at); e != api.OK || got != want {
		t.Errorf("word %d: %d (error %d), want %d", at, got, e, want)
	}
	a.Clear(0)
}

// wantOK fails if one of the answers is an error.
func wantOK(t *testing.T, answers ...api.Errno) {
	t.Helper()
	for i, e := range answers {
		if e != api.OK {
			t.Errorf("answer %d: error %d", i, e)
		}
	}
}

func read(at int) api.Access  { return api.Access{At: at} }
func write(at int) api.Access { return api.Access{At: at, Write: true} }

// P2.1: the sizes that are made, from the least to the greatest; words are 0, traces empty.
func TestNewSizes(t *testing.T) {
	for _, c := range [][2]int{{1, 1}, {1, api.MaxCores}, {2, 3}, {api.MaxArena - 1, 1}, {api.MaxArena, 1}, {api.MaxArena, api.MaxCores}} {
		a := makeArena(t, c[0], c[1])
		if a.Words() != c[0] || a.Cores() != c[1] {
			t.Errorf("New(%d, %d): %d words, %d cores", c[0], c[1], a.Words(), a.Cores())
		}
		for core := range c[1] {
			wantTrace(t, a, core)
		}
		for at := range c[0] {
			wantWord(t, a, at, 0)
		}
	}
}

// P2.1: the sizes that are refused.
func TestNewRefuses(t *testing.T) {
	rows := [][2]int{
		{0, 1}, {-1, 1}, {api.MaxArena + 1, 1}, {math.MinInt, 1}, {math.MaxInt, 1},
		{1, 0}, {1, -1}, {1, api.MaxCores + 1}, {1, math.MinInt}, {1, math.MaxInt},
		{0, 0}, {-1, -1}, {api.MaxArena + 1, api.MaxCores + 1}, {-1, api.MaxCores + 1},
	}
	for _, c := range rows {
		if a, e := arena.New(c[0], c[1]); e != api.ErrArenaSize || a != nil {
			t.Errorf("New(%d, %d): error %d", c[0], c[1], e)
		}
	}
}

// P2.1: each call, at the first and the last word, by the first and the last core.
func TestCallsAtTheEdges(t *testing.T) {
	for _, c := range [][2]int{{1, 1}, {2, 2}, {5, 3}, {api.MaxArena, api.MaxCores}} {
		a := makeArena(t, c[0], c[1])
		for _, at := range []int{0, c[0] - 1} {
			for _, core := range []int{0, c[1] - 1} {
				wantOK(t, a.Clear(core), a.Store(core, at, 40))
				v, e := a.Load(core, at)
				is, f := a.Cas(core, at, 40, 50)
				not, g := a.Cas(core, at, 40, 60)
				n, h := a.Add(core, at, 7)
				wantOK(t, e, f, g, h)
				if v != 40 || !is || not || n != 57 {
					t.Errorf("%v, core %d, word %d: %d, %v, %v, %d", c, core, at, v, is, not, n)
				}
				wantTrace(t, a, core, write(at), read(at), write(at), read(at), write(at))
				wantWord(t, a, at, 57)
			}
		}
	}
}

// P2.1: what is written, every core reads, and at that word alone.
func TestWordsAreShared(t *testing.T) {
	a := makeArena(t, 6, 4)
	wantOK(t, a.Store(0, 2, 5))
	if v, e := a.Load(3, 2); v != 5 || e != api.OK {
		t.Errorf("%d, error %d", v, e)
	}
	if n, e := a.Add(1, 2, 1); n != 6 || e != api.OK {
		t.Errorf("%d, error %d", n, e)
	}
	if is, e := a.Cas(2, 2, 6, -9); !is || e != api.OK {
		t.Errorf("%v, error %d", is, e)
	}
	for at, want := range []int{0, 0, -9, 0, 0, 0} {
		wantWord(t, a, at, want)
	}
}

// P2.1: a Cas that finds what it looks for, and one that does not.
func TestCas(t *testing.T) {
	rows := []struct {
		word, old, v int
		want         bool
	}{
		{0, 0, 1, true},
		{0, 0, 0, true},
		{5, 5, 5, true},
		{5, 5, 0, true},
		{5, 4, 6, false},
		{5, 6, 5, false},
		{5, -5, 5, false},
		{5, 0, 5, false},
		{0, 1, 0, false},
		{math.MaxInt, math.MaxInt, math.MinInt, true},
		{math.MaxInt, math.MinInt, 1, false},
		{-1, -1, math.MaxInt, true},
	}
	for _, c := range rows {
		a := makeArena(t, 3, 2)
		a.Store(1, 1, c.word)
		a.Clear(1)
		want, kind := c.word, read(1)
		if c.want {
			want, kind = c.v, write(1)
		}
		if is, e := a.Cas(1, 1, c.old, c.v); is != c.want || e != api.OK {
			t.Errorf("%v: %v, error %d", c, is, e)
		}
		wantTrace(t, a, 1, kind)
		wantTrace(t, a, 0)
		wantWord(t, a, 1, want)
	}
}

// P2.1: an Add answers what the word is now; it wraps as an int.
func TestAdd(t *testing.T) {
	rows := []struct{ word, v, want int }{
		{0, 0, 0},
		{0, 1, 1},
		{3, -3, 0},
		{3, -4, -1},
		{math.MaxInt, 1, math.MinInt},
		{1, math.MaxInt, math.MinInt},
		{math.MinInt, -1, math.MaxInt},
		{math.MaxInt, math.MaxInt, -2},
		{math.MinInt, math.MinInt, 0},
		{math.MinInt, math.MaxInt, -1},
		{math.MaxInt, 0, math.MaxInt},
	}
	for _, c := range rows {
		a := makeArena(t, 2, 1)
		a.Store(0, 1, c.word)
		a.Clear(0)
		if n, e := a.Add(0, 1, c.v); n != c.want || e != api.OK {
			t.Errorf("%d + %d: %d, error %d, want %d", c.word, c.v, n, e, c.want)
		}
		wantTrace(t, a, 0, write(1))
		wantWord(t, a, 1, c.want)
		wantWord(t, a, 0, 0)
	}
}

// P2.1: a Store of what the word is already, and an Add of 0, are writings too.
func TestWritingsThatChangeNothing(t *testing.T) {
	a := makeArena(t, 2, 1)
	a.Store(0, 0, 0)
	a.Add(0, 1, 0)
	a.Cas(0, 0, 0, 0)
	wantTrace(t, a, 0, write(0), write(1), write(0))
}
