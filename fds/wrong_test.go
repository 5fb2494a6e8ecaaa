package fds_test

import (
	"math"
	"testing"

	"concourse/api"
	"concourse/arena"
	"concourse/fds"
)

// P12.1, R6: places that are refused, a nil arena ahead of them; nothing is touched.
func TestNewRefuses(t *testing.T) {
	const words = 50
	for cores := 1; cores <= api.MaxCores; cores++ {
		a := makeArena(t, words, cores)
		held := allWords(a)
		for _, from := range []int{
			-1, -2, -4, -8, -words, -1 << 32, math.MinInt, math.MinInt + 1, math.MinInt + words,
			words - 4*cores + 1, words - 1, words, words + 1, 2 * words, 1 << 31, 1 << 32, 1 << 60, 1 << 62,
			math.MaxInt, math.MaxInt - 1, math.MaxInt - 4*cores, math.MaxInt - 4*cores + 1, math.MaxInt - words,
		} {
			if f, e := fds.New(a, from); f != nil || e != api.ErrFdsForm {
				t.Errorf("%d cores, from %d: error %d", cores, from, e)
			}
			if f, e := fds.New(nil, from); f != nil || e != api.ErrNil {
				t.Errorf("no arena, from %d: error %d", from, e)
			}
		}
		wantQuiet(t, a, held)
		bookAt(t, a, words-4*cores).end()
	}
	if f, e := fds.New(nil, 0); f != nil || e != api.ErrNil {
		t.Errorf("no arena: error %d", e)
	}
}

// P12.1: an arena of fewer words than MaxFds for each core has no place for descriptors.
func TestArenasThatAreTooSmall(t *testing.T) {
	for cores := 1; cores <= api.MaxCores; cores++ {
		for words := 1; words < 4*cores; words++ {
			a := makeArena(t, words, cores)
			for from := -1; from <= words; from++ {
				if f, e := fds.New(a, from); f != nil || e != api.ErrFdsForm {
					t.Errorf("%d cores, %d words, from %d: error %d", cores, words, from, e)
				}
			}
		}
	}
}

// R5: a New that is refused leaves Fds that are there as they are.
func TestARefusedNewBeside(t *testing.T) {
	b := makeBook(t, 3, 0, 0)
	b.open(0, 5)
	b.open(1, 6)
	b.open(1, 5)
	for _, from := range []int{-1, 1, 2, 12} {
		fds.New(b.a, from)
	}
	b.end()
}

// wrongCores are below 0 and behind the last of so many.
func wrongCores(cores int) []int {
	return []int{
		-1, -2, -8, cores, cores + 1, cores + 8, 1 << 32, 1 << 62, math.MinInt, math.MinInt + 1, math.MaxInt, math.MaxInt - 1,
	}
}

// wantNoCore fails unless cores that there are not are refused, whatever the number or the descriptor, with nothing
// touched.
func wantNoCore(b *book) {
	b.t.Helper()
	words := allWords(b.a)
	for _, core := range wrongCores(len(b.has)) {
		for _, v := range []int{-1, 0, 1, 3, 4, math.MinInt, math.MaxInt} {
			if fd, e := b.f.Open(core, v); fd != 0 || e != api.ErrFdsForm {
				b.t.Errorf("%d cores: Open(%d, %d): %d, error %d", len(b.has), core, v, fd, e)
			}
			if num, e := b.f.Get(core, v); num != 0 || e != api.ErrFdsForm {
				b.t.Errorf("%d cores: Get(%d, %d): %d, error %d", len(b.has), core, v, num, e)
			}
			if e := b.f.Close(core, v); e != api.ErrFdsForm {
				b.t.Errorf("%d cores: Close(%d, %d): error %d", len(b.has), core, v, e)
			}
		}
		if list := b.f.List(core); len(list) != 0 {
			b.t.Errorf("%d cores: List(%d): %v", len(b.has), core, list)
		}
	}
	wantQuiet(b.t, b.a, words)
}

// P12.1, R5, R6: cores that there are not, also where there are words ahead of the first and behind the last, where no
// core has a descriptor, where some have, and where all have all.
func TestCoresThatThereAreNot(t *testing.T) {
	for cores := 1; cores <= api.MaxCores; cores++ {
		b := makeBook(t, cores, 12, 12)
		wantNoCore(b)
		for core := range cores {
			for k := range 1 + core%3 {
				b.open(core, 2+k)
			}
		}
		wantNoCore(b)
		b.fill()
		wantNoCore(b)
		b.look()
		b.end()
	}
}

// P12.1, R6: numbers below 1, ahead of a core that is full; nothing is touched.
func TestNumbersBelowOne(t *testing.T) {
	b := makeBook(t, 3, 2, 2)
	b.open(1, 5)
	for range api.MaxFds {
		b.open(2, 5)
	}
	words := allWords(b.a)
	for _, num := range []int{0, -1, -2, -5, -1 << 32, math.MinInt, math.MinInt + 1} {
		for core := range 3 {
			if fd, e := b.f.Open(core, num); fd != 0 || e != api.ErrFdsForm {
				t.Errorf("Open(%d, %d): %d, error %d", core, num, fd, e)
			}
		}
	}
	wantQuiet(t, b.a, words)
	b.end()
}

// P12.1, R5: descriptors that no core can have: below 0, MaxFds, far above, and such as would wrap round to one.
func TestDescriptorsThatThereAreNot(t *testing.T) {
	b := makeBook(t, 3, 20, 20)
	b.fill()
	words := allWords(b.a)
	for _, fd := range []int{
		-1, -2, -4, -8, 4, 5, 8, 11, 12, 257, 1 << 32, 1<<32 + 1, 1 << 62, 1<<62 + 2,
		math.MaxInt, math.MaxInt - 4, math.MinInt, math.MinInt + 1, math.MinInt + 3,
	} {
		for core := range 3 {
			if num, e := b.f.Get(core, fd); num != 0 || e != api.ErrFdsNone {
				t.Errorf("Get(%d, %d): %d, error %d", core, fd, num, e)
			}
			if e := b.f.Close(core, fd); e != api.ErrFdsNone {
				t.Errorf("Close(%d, %d): error %d", core, fd, e)
			}
		}
	}
	wantQuiet(t, b.a, words)
	b.end()
}

// P12.1, R5: descriptors that a core never had, has no more, or that only another core has; no word changes.
func TestDescriptorsThatACoreHasNot(t *testing.T) {
	b := makeBook(t, 3, 4, 4)
	for k := range api.MaxFds {
		b.open(1, 10+k)
		b.open(2, 20+k)
	}
	b.close(2, 0)
	b.close(2, 3)
	words := allWords(b.a)
	for _, c := range []struct{ core, fd int }{{0, 0}, {0, 1}, {0, 2}, {0, 3}, {2, 0}, {2, 3}} {
		for range 2 {
			if num, e := b.f.Get(c.core, c.fd); num != 0 || e != api.ErrFdsNone {
				t.Errorf("Get(%d, %d): %d, error %d", c.core, c.fd, num, e)
			}
			if e := b.f.Close(c.core, c.fd); e != api.ErrFdsNone {
				t.Errorf("Close(%d, %d): error %d", c.core, c.fd, e)
			}
		}
	}
	clearTraces(b.a) // what the core has was read
	wantQuiet(t, b.a, words)
	b.end()
}

// R5: an Open that is refused as full changes no word.
func TestFullChangesNothing(t *testing.T) {
	b := makeBook(t, 3, 1, 1)
	for k := range api.MaxFds {
		b.open(1, 30+k)
	}
	b.open(2, 1)
	words := allWords(b.a)
	for num := 1; num < 40; num++ {
		if fd, e := b.f.Open(1, num); fd != 0 || e != api.ErrFdsFull {
			t.Fatalf("%d, error %d", fd, e)
		}
	}
	clearTraces(b.a) // what the core has was read
	wantQuiet(t, b.a, words)
	b.end()
}

// R3: no Fds, whatever the core, the number or the descriptor.
func TestNilFds(t *testing.T) {
	var none *fds.Fds
	for _, core := range []int{0, 1, 7, 8, -1, math.MaxInt, math.MinInt} {
		for _, v := range []int{0, 1, 3, 4, -1, math.MaxInt, math.MinInt} {
			if fd, e := none.Open(core, v); fd != 0 || e != api.ErrNil {
				t.Errorf("Open(%d, %d): %d, error %d", core, v, fd, e)
			}
			if num, e := none.Get(core, v); num != 0 || e != api.ErrNil {
				t.Errorf("Get(%d, %d): %d, error %d", core, v, num, e)
			}
			if e := none.Close(core, v); e != api.ErrNil {
				t.Errorf("Close(%d, %d): error %d", core, v, e)
			}
		}
		if list := none.List(core); len(list) != 0 {
			t.Errorf("List(%d): %v", core, list)
		}
	}
}

// wantNoCores fails unless Fds have no core at all.
func wantNoCores(t *testing.T, f *fds.Fds) {
	t.Helper()
	for _, core := range []int{0, 1, -1, math.MaxInt} {
		if fd, e := f.Open(core, 1); fd != 0 || e != api.ErrFdsForm {
			t.Errorf("Open(%d, 1): %d, error %d", core, fd, e)
		}
		if num, e := f.Get(core, 0); num != 0 || e != api.ErrFdsForm {
			t.Errorf("Get(%d, 0): %d, error %d", core, num, e)
		}
		if e := f.Close(core, 0); e != api.ErrFdsForm {
			t.Errorf("Close(%d, 0): error %d", core, e)
		}
		if list := f.List(core); len(list) != 0 {
			t.Errorf("List(%d): %v", core, list)
		}
	}
}

// R1: Fds that New did not make have no core, nor have those of an arena that was not made: no words lie within it.
func TestFdsThatWereNotMade(t *testing.T) {
	wantNoCores(t, new(fds.Fds))
	bare := new(arena.Arena)
	if f, e := fds.New(bare, 1); f != nil || e != api.ErrFdsForm {
		t.Errorf("a bare arena, from 1: error %d", e)
	}
	f, e := fds.New(bare, 0)
	if e != api.OK {
		t.Fatalf("a bare arena: error %d", e)
	}
	wantNoCores(t, f)
}

// R1: whatever somebody stores into the words, each call ends, and touches no other word.
func TestWordsThatSomebodyStoredTo(t *testing.T) {
	for _, v := range []int{-1, -2, -4, 1, 4, 5, 1 << 60, math.MaxInt, math.MinInt, math.MinInt + 1} {
		b := makeBook(t, 3, 6, 6)
		for at := range 12 {
			b.a.Store(at/4, 6+at, v)
		}
		for core := range 3 {
			for fd := range 4 {
				b.f.Get(core, fd)
				b.f.Open(core, 1+fd)
				b.f.List(core)
				b.f.Close(core, fd)
				b.f.Close(core, fd)
			}
		}
		b.wantOutsideKept()
	}
}
