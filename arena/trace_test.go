package arena_test

import (
	"slices"
	"testing"

	"concourse/api"
	"concourse/arena"
)

// P2.1: a trace ahead of and behind a Clear; the words stay.
func TestClear(t *testing.T) {
	a := makeArena(t, 4, 2)
	wantOK(t, a.Clear(0), a.Clear(1))
	wantTrace(t, a, 0)
	a.Store(0, 3, 8)
	a.Load(0, 0)
	a.Load(0, 0)
	wantTrace(t, a, 0, write(3), read(0), read(0))
	wantTrace(t, a, 0, write(3), read(0), read(0))
	wantOK(t, a.Clear(0))
	wantTrace(t, a, 0)
	a.Load(0, 2)
	wantTrace(t, a, 0, read(2))
	a.Add(0, 1, 1)
	wantTrace(t, a, 0, read(2), write(1))
	wantOK(t, a.Clear(0), a.Clear(0))
	wantTrace(t, a, 0)
	wantWord(t, a, 3, 8)
	wantWord(t, a, 1, 1)
}

// P2.1: each core has a trace of its own, and a Clear of its own.
func TestTracesOfSeveralCores(t *testing.T) {
	a := makeArena(t, 8, api.MaxCores)
	for at := range 8 {
		for core := range api.MaxCores {
			if core%2 == 0 {
				a.Store(core, at, core)
			} else {
				a.Load(core, at)
			}
		}
	}
	empty := func(int) []api.Access { return nil }
	full := func(core int) []api.Access {
		var row []api.Access
		for at := range 8 {
			row = append(row, api.Access{At: at, Write: core%2 == 0})
		}
		return row
	}
	for gone := range api.MaxCores {
		for core := range api.MaxCores {
			want := full
			if core < gone {
				want = empty
			}
			wantTrace(t, a, core, want(core)...)
		}
		wantOK(t, a.Clear(gone))
	}
}

// R4: what Trace answers is the caller's alone.
func TestTraceIsNewMemory(t *testing.T) {
	a := makeArena(t, 4, 2)
	for at := range 3 {
		a.Store(0, at, at)
		a.Load(1, at)
	}
	got, again := a.Trace(0), a.Trace(0)
	got[0] = api.Access{At: 99}
	_ = append(got, api.Access{At: 98})
	_ = append(got[:1], api.Access{At: 97})
	if !slices.Equal(again, []api.Access{write(0), write(1), write(2)}) {
		t.Errorf("another answer: %v", again)
	}
	wantTrace(t, a, 0, write(0), write(1), write(2))
	wantTrace(t, a, 1, read(0), read(1), read(2))

	// An answer stays as it was, whatever is done later, with room to spare or without.
	for n := range 20 {
		kept := a.Trace(0)
		a.Load(0, 3)
		_ = append(kept, write(2))
		if len(kept) != n+3 || !slices.Equal(kept, a.Trace(0)[:n+3]) || a.Trace(0)[n+3] != read(3) {
			t.Fatalf("behind %d more: %v, now %v", n, kept, a.Trace(0))
		}
	}
	kept := a.Trace(1)
	a.Clear(1)
	a.Store(1, 3, 1)
	if !slices.Equal(kept, []api.Access{read(0), read(1), read(2)}) {
		t.Errorf("behind a Clear: %v", kept)
	}
}

// Two arenas share nothing.
func TestArenasAreApart(t *testing.T) {
	a, b := makeArena(t, 2, 1), makeArena(t, 2, 1)
	a.Store(0, 1, 5)
	wantTrace(t, b, 0)
	wantWord(t, b, 1, 0)
	wantTrace(t, a, 0, write(1))
}

// refusals does each call that takes a core and a place, and fails if one isn't refused so.
func refusals(t *testing.T, a *arena.Arena, core, at int, want api.Errno) {
	t.Helper()
	v, e := a.Load(core, at)
	is, f := a.Cas(core, at, 0, 1)
	n, g := a.Add(core, at, 1)
	h := a.Store(core, at, 1)
	if e != want || f != want || g != want || h != want {
		t.Errorf("core %d, place %d: errors %d, %d, %d, %d, want %d", core, at, e, f, g, h, want)
	}
	if v != 0 || is || n != 0 {
		t.Errorf("core %d, place %d: %d, %v, %d beside an error", core, at, v, is, n)
	}
}

// P2.1, R6: cores and places that there are not; the core is told first. Nothing is left of such a call.
func TestWrongCoresAndPlaces(t *testing.T) {
	const lowest, highest = -1 << 63, 1<<63 - 1
	for _, c := range [][2]int{{1, 1}, {4, 2}, {2, 4}, {api.MaxArena, api.MaxCores}} {
		a := makeArena(t, c[0], c[1])
		wrongCores := []int{lowest, -1, c[1], c[1] + 1, api.MaxCores, api.MaxCores + 1, highest}
		wrongPlaces := []int{lowest, -1, c[0], c[0] + 1, api.MaxArena, api.MaxArena + 1, highest}
		a.Store(0, 0, 3)
		for _, core := range wrongCores {
			for _, at := range append([]int{0, c[0] - 1}, wrongPlaces...) {
				refusals(t, a, core, at, api.ErrArenaCore)
			}
			if e := a.Clear(core); e != api.ErrArenaCore {
				t.Errorf("Clear(%d): error %d", core, e)
			}
			if got := a.Trace(core); len(got) != 0 {
				t.Errorf("Trace(%d): %v", core, got)
			}
		}
		for core := range c[1] {
			for _, at := range wrongPlaces {
				refusals(t, a, core, at, api.ErrArenaPlace)
			}
		}
		wantTrace(t, a, 0, write(0))
		for core := 1; core < c[1]; core++ {
			wantTrace(t, a, core)
		}
		wantWord(t, a, 0, 3)
		for at := 1; at < c[0]; at++ {
			wantWord(t, a, at, 0)
		}
	}
}

// R3: a nil arena. R1: an arena that New did not make has no core.
func TestNoArena(t *testing.T) {
	var none *arena.Arena
	for _, core := range []int{-1, 0, 1, 8} {
		refusals(t, none, core, 0, api.ErrNil)
		refusals(t, none, core, -1, api.ErrNil)
		if e := none.Clear(core); e != api.ErrNil {
			t.Errorf("Clear(%d): error %d", core, e)
		}
		if got := none.Trace(core); got != nil {
			t.Errorf("Trace(%d): %v", core, got)
		}
	}
	if none.Words() != 0 || none.Cores() != 0 {
		t.Errorf("%d words, %d cores", none.Words(), none.Cores())
	}
	bare := new(arena.Arena)
	refusals(t, bare, 0, 0, api.ErrArenaCore)
	if e := bare.Clear(0); e != api.ErrArenaCore || bare.Trace(0) != nil || bare.Words() != 0 || bare.Cores() != 0 {
		t.Errorf("a bare arena: error %d", e)
	}
}
