package lock_test

import (
	"slices"
	"testing"

	"concourse/api"
	"concourse/arena"
	"concourse/lock"
)

// makeArena gives an arena of so many words and cores.
func makeArena(t *testing.T, words, cores int) *arena.Arena {
	t.Helper()
	a, e := arena.New(words, cores)
	if e != api.OK {
		t.Fatalf("arena.New(%d, %d): error %d", words, cores, e)
	}
	return a
}

// setWord lets a word be v.
func setWord(t *testing.T, a *arena.Arena, at, v int) {
	t.Helper()
	if e := a.Store(0, at, v); e != api.OK {
		t.Fatalf("arena.Store(0, %d, %d): error %d", at, v, e)
	}
}

// allWords gives the words of an arena; it leaves core 0's trace empty.
func allWords(a *arena.Arena) []int {
	words := make([]int, a.Words())
	for at := range words {
		words[at], _ = a.Load(0, at)
	}
	a.Clear(0)
	return words
}

func read(at int) api.Access  { return api.Access{At: at} }
func write(at int) api.Access { return api.Access{At: at, Write: true} }

// wantTouches fails unless a call by a core touches just these words, no other core any, and the call's word alone
// becomes another, which is now.
func wantTouches(t *testing.T, a *arena.Arena, core, at, now int, call func(), want ...api.Access) {
	t.Helper()
	words := allWords(a)
	for c := range a.Cores() {
		a.Clear(c)
	}
	call()
	for c := range a.Cores() {
		got := a.Trace(c)
		if c == core && !slices.Equal(got, want) {
			t.Errorf("core %d, word %d: trace %v, want %v", core, at, got, want)
		}
		if c != core && len(got) != 0 {
			t.Errorf("core %d, word %d: core %d's trace is %v", core, at, c, got)
		}
	}
	words[at] = now
	if got := allWords(a); !slices.Equal(got, words) {
		t.Errorf("core %d, word %d: words %v, want %v", core, at, got, words)
	}
}

// wantTry fails unless a Try answers want; it says what the word is then.
func wantTry(t *testing.T, a *arena.Arena, core, at, now int, want bool) {
	t.Helper()
	touch := read(at)
	if want {
		touch = write(at)
	}
	wantTouches(t, a, core, at, now, func() {
		if got, e := lock.Try(a, core, at); got != want || e != api.OK {
			t.Errorf("Try(%d, %d): %v, error %d, want %v", core, at, got, e, want)
		}
	}, touch)
}

// wantUnlock fails unless an Unlock of a word that the core holds lets it go.
func wantUnlock(t *testing.T, a *arena.Arena, core, at int) {
	t.Helper()
	wantTouches(t, a, core, at, 0, func() {
		if e := lock.Unlock(a, core, at); e != api.OK {
			t.Errorf("Unlock(%d, %d): error %d", core, at, e)
		}
	}, read(at), write(at))
}

// wantNotHeld fails unless an Unlock of a word that the core does not hold is refused and leaves it as it is.
func wantNotHeld(t *testing.T, a *arena.Arena, core, at, now int) {
	t.Helper()
	wantTouches(t, a, core, at, now, func() {
		if e := lock.Unlock(a, core, at); e != api.ErrLockHeld {
			t.Errorf("Unlock(%d, %d) of %d: error %d", core, at, now, e)
		}
	}, read(at))
}

// wantHolder fails unless a core is told this holder of a word.
func wantHolder(t *testing.T, a *arena.Arena, core, at, now, want int) {
	t.Helper()
	wantTouches(t, a, core, at, now, func() {
		if got, e := lock.Holder(a, core, at); got != want || e != api.OK {
			t.Errorf("Holder(%d, %d) of %d: %d, error %d, want %d", core, at, now, got, e, want)
		}
	}, read(at))
}

// wantBegin fails unless a Begin answers the word, and whether it is even.
func wantBegin(t *testing.T, a *arena.Arena, core, at, now int, even bool) {
	t.Helper()
	wantTouches(t, a, core, at, now, func() {
		if got, is, e := lock.Begin(a, core, at); got != now || is != even || e != api.OK {
			t.Errorf("Begin(%d, %d): %d, %v, error %d, want %d, %v", core, at, got, is, e, now, even)
		}
	}, read(at))
}

// wantSame fails unless a Same of a word that is now answers want.
func wantSame(t *testing.T, a *arena.Arena, core, at, now, seq int, want bool) {
	t.Helper()
	wantTouches(t, a, core, at, now, func() {
		if got, e := lock.Same(a, core, at, seq); got != want || e != api.OK {
			t.Errorf("Same(%d, %d, %d) of %d: %v, error %d", core, at, seq, now, got, e)
		}
	}, read(at))
}

// wantTurn fails unless the word of a Turn is now behind it.
func wantTurn(t *testing.T, a *arena.Arena, core, at, now int) {
	t.Helper()
	wantTouches(t, a, core, at, now, func() {
		if e := lock.Turn(a, core, at); e != api.OK {
			t.Errorf("Turn(%d, %d): error %d", core, at, e)
		}
	}, write(at))
}
