package inum_test

import (
	"math"
	"testing"

	"concourse/api"
	"concourse/arena"
	"concourse/inum"
)

// P10.1, R6: places that are refused, a nil arena ahead of them; nothing is touched.
func TestNewRefuses(t *testing.T) {
	for cores := 1; cores <= api.MaxCores; cores++ {
		a := makeArena(t, 20, cores)
		words := allWords(a)
		for _, from := range []int{
			-1, -2, -8, -20, -1 << 32, math.MinInt, math.MinInt + 1, math.MinInt + 20,
			20 - cores + 1, 20, 21, 28, 40, 1 << 31, 1 << 32, 1 << 62, 1<<63 - 1 - 20,
			math.MaxInt, math.MaxInt - 1, math.MaxInt - cores, math.MaxInt - cores + 1,
		} {
			if x, e := inum.New(a, from); x != nil || e != api.ErrInumCore {
				t.Errorf("%d cores, from %d: error %d", cores, from, e)
			}
			if x, e := inum.New(nil, from); x != nil || e != api.ErrNil {
				t.Errorf("no arena, from %d: error %d", from, e)
			}
		}
		wantQuiet(t, a, words)
		bookAt(t, a, 20-cores).fill()
	}
	if x, e := inum.New(nil, 0); x != nil || e != api.ErrNil {
		t.Errorf("no arena: error %d", e)
	}
}

// P10.1: an arena of fewer words than cores has no place for counters.
func TestFewerWordsThanCores(t *testing.T) {
	for words := 1; words < api.MaxCores; words++ {
		a := makeArena(t, words, api.MaxCores)
		for from := -1; from <= words; from++ {
			if x, e := inum.New(a, from); x != nil || e != api.ErrInumCore {
				t.Errorf("%d words, from %d: error %d", words, from, e)
			}
		}
	}
}

// R5: a New that is refused leaves Nums that are there as they are.
func TestARefusedNewBeside(t *testing.T) {
	b := makeBook(t, 3, 0, 0)
	b.next(0)
	b.next(1)
	b.next(1)
	for _, from := range []int{-1, 1, 2, 3} {
		inum.New(b.a, from)
	}
	b.fill()
}

// wrongCores are below 0 and behind the last of so many.
func wrongCores(cores int) []int {
	return []int{-1, -2, -8, cores, cores + 1, cores + 8, 1 << 32, math.MinInt, math.MinInt + 1, math.MaxInt, math.MaxInt - 1}
}

// wantNoCore fails unless cores that there are not are refused, with nothing touched.
func wantNoCore(b *book) {
	b.t.Helper()
	words := allWords(b.a)
	for _, core := range wrongCores(len(b.given)) {
		if num, e := b.x.Next(core); num != 0 || e != api.ErrInumCore {
			b.t.Errorf("%d cores: Next(%d): %d, error %d", len(b.given), core, num, e)
		}
	}
	wantQuiet(b.t, b.a, words)
}

// P10.1, R5, R6: cores that there are not, also where there are words behind the last counter, and where all are full.
func TestCoresThatThereAreNot(t *testing.T) {
	for cores := 1; cores <= api.MaxCores; cores++ {
		b := makeBook(t, cores, 12, 12)
		wantNoCore(b)
		for core := range cores {
			for range core + 1 {
				b.next(core)
			}
		}
		wantNoCore(b)
		b.fill()
		wantNoCore(b)
		b.close()
	}
}

// R5: a Next that is refused as full changes no word.
func TestFullChangesNothing(t *testing.T) {
	b := makeBook(t, 3, 1, 1)
	for range api.MaxMade {
		b.next(1)
	}
	b.next(2)
	words := allWords(b.a)
	for range 40 {
		if num, e := b.x.Next(1); num != 0 || e != api.ErrInumFull {
			t.Fatalf("%d, error %d", num, e)
		}
	}
	clearTraces(b.a) // the counter was read
	wantQuiet(t, b.a, words)
	b.fill()
}

// P10.1: numbers below 2 are no core's.
func TestCoreOfNoNumber(t *testing.T) {
	for num := -1000; num < 2; num++ {
		if got := inum.Core(num); got != -1 {
			t.Errorf("Core(%d): %d", num, got)
		}
	}
	for _, num := range []int{-1 << 31, -1 << 32, math.MinInt, math.MinInt + 1, math.MinInt + 2} {
		if got := inum.Core(num); got != -1 {
			t.Errorf("Core(%d): %d", num, got)
		}
	}
}

// R3: no Nums.
func TestNilNums(t *testing.T) {
	var none *inum.Nums
	for _, core := range []int{0, 1, 7, 8, -1, math.MaxInt, math.MinInt} {
		if num, e := none.Next(core); num != 0 || e != api.ErrNil {
			t.Errorf("Next(%d): %d, error %d", core, num, e)
		}
	}
}

// R1: Nums that New did not make have no core, nor have those of an arena that was not made: no words lie within it.
func TestNumsThatWereNotMade(t *testing.T) {
	x := new(inum.Nums)
	for _, core := range []int{0, 1, -1, math.MaxInt} {
		if num, e := x.Next(core); num != 0 || e != api.ErrInumCore {
			t.Errorf("Next(%d): %d, error %d", core, num, e)
		}
	}
	bare := new(arena.Arena)
	if x, e := inum.New(bare, 1); x != nil || e != api.ErrInumCore {
		t.Errorf("a bare arena, from 1: error %d", e)
	}
	x, e := inum.New(bare, 0)
	if e != api.OK {
		t.Fatalf("a bare arena: error %d", e)
	}
	if num, e := x.Next(0); num != 0 || e != api.ErrInumCore {
		t.Errorf("a bare arena: Next(0): %d, error %d", num, e)
	}
}

// R1: whatever somebody stores into the counters, Next ends, and touches no other word.
func TestWordsThatSomebodyStoredTo(t *testing.T) {
	for _, v := range []int{-1, -2, -32, 32, 33, 1 << 60, math.MaxInt, math.MaxInt - 1, math.MinInt, math.MinInt + 1} {
		b := makeBook(t, 3, 6, 6)
		for core := range 3 {
			b.a.Store(core, 6+core, v)
			for range 3 {
				b.x.Next(core)
			}
		}
		b.close()
	}
}
