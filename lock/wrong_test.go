package lock_test

import (
	"math"
	"slices"
	"testing"

	"concourse/api"
	"concourse/arena"
	"concourse/lock"
)

// wantRefused fails unless each call is refused with this error, and zero values beside it.
func wantRefused(t *testing.T, a *arena.Arena, core, at int, want api.Errno) {
	t.Helper()
	taken, e := lock.Try(a, core, at)
	f := lock.Unlock(a, core, at)
	holder, g := lock.Holder(a, core, at)
	seq, even, h := lock.Begin(a, core, at)
	same, i := lock.Same(a, core, at, 0)
	j := lock.Turn(a, core, at)
	for k, got := range []api.Errno{e, f, g, h, i, j} {
		if got != want {
			t.Errorf("core %d, word %d, call %d: error %d, want %d", core, at, k, got, want)
		}
	}
	if taken || holder != 0 || seq != 0 || even || same {
		t.Errorf("core %d, word %d: %v, %d, %d, %v, %v", core, at, taken, holder, seq, even, same)
	}
}

// P5.1, P5.2: cores and places that the arena refuses, below 0 and behind the last: no word changes, nothing is noted.
func TestCoresAndPlacesThatThereAreNot(t *testing.T) {
	wrong := func(n int) []int {
		return []int{-1, -2, n, n + 1, math.MinInt, math.MinInt + 1, math.MaxInt, math.MaxInt - 1}
	}
	for _, c := range [][2]int{{1, 1}, {3, 2}, {20, api.MaxCores}} {
		words, cores := c[0], c[1]
		for _, first := range []int{0, 1, -1} {
			a := makeArena(t, words, cores)
			for at := range words {
				setWord(t, a, at, first)
			}
			before := allWords(a)
			for _, core := range wrong(cores) {
				for _, at := range append(wrong(words), 0, words-1) {
					wantRefused(t, a, core, at, api.ErrLockPlace)
				}
			}
			for core := range cores {
				for _, at := range wrong(words) {
					wantRefused(t, a, core, at, api.ErrLockPlace)
				}
				if row := a.Trace(core); len(row) != 0 {
					t.Errorf("core %d: refused calls touched %v", core, row)
				}
			}
			if got := allWords(a); !slices.Equal(got, before) {
				t.Errorf("refused calls let the words be %v, they were %v", got, before)
			}
		}
	}
}

// P5.1, P5.2, R3, R6: of a nil arena, whatever the core and the place.
func TestANilArena(t *testing.T) {
	for _, core := range []int{0, 1, -1, 8, math.MinInt, math.MaxInt} {
		for _, at := range []int{0, 1, -1, api.MaxArena, math.MinInt, math.MaxInt} {
			wantRefused(t, nil, core, at, api.ErrNil)
		}
	}
}

// P5.1, P5.2: an arena that was not made has no core.
func TestAnArenaThatWasNotMade(t *testing.T) {
	wantRefused(t, &arena.Arena{}, 0, 0, api.ErrLockPlace)
}
