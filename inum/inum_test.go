package inum_test

import (
	"math"
	"testing"

	"concourse/api"
	"concourse/arena"
	"concourse/inum"
)

// P10.1: the first numbers of two cores, one by one.
func TestFirstNumbers(t *testing.T) {
	a, _ := arena.New(10, 2)
	x, e := inum.New(a, 3)
	if e != api.OK {
		t.Fatalf("error %d", e)
	}
	for _, c := range []struct{ core, num int }{{1, 3}, {0, 2}, {0, 10}, {0, 18}, {1, 11}, {0, 26}, {1, 19}} {
		if num, e := x.Next(c.core); num != c.num || e != api.OK {
			t.Errorf("Next(%d): %d, error %d, want %d", c.core, num, e, c.num)
		}
	}
}

// P10.1: arenas of one core to MaxCores cores, core by core and round and round.
func TestAllNumbersOfAllCores(t *testing.T) {
	for cores := 1; cores <= api.MaxCores; cores++ {
		b := makeBook(t, cores, 4, 4)
		b.fill()
		b.close()
		b = makeBook(t, cores, 0, 0)
		for range api.MaxMade + 2 {
			for core := range cores {
				b.next(core)
			}
		}
		b.close()
	}
}

// P10.1: Nexts in any row; no number is given twice, each is from 2 on, and Core tells whose it is.
func TestAnyRow(t *testing.T) {
	for seed := range 100 {
		g := row(seed)
		cores := 1 + g.below(api.MaxCores)
		b := makeBook(t, cores, g.below(9), g.below(9))
		seen := map[int]int{}
		for range g.below(2 * cores * api.MaxMade) {
			core := g.below(cores)
			full := b.given[core] == api.MaxMade
			num := b.next(core)
			if full {
				continue
			}
			seen[num]++
			if num < 2 || seen[num] > 1 || inum.Core(num) != core {
				t.Fatalf("core %d was given %d, which is core %d's, time %d", core, num, inum.Core(num), seen[num])
			}
		}
		b.fill()
		b.close()
	}
}

// P10.1: with all cores, the numbers are 2 to 257, each once.
func TestNumbersHaveNoGap(t *testing.T) {
	b := makeBook(t, api.MaxCores, 1, 1)
	var seen [258]int
	for core := range api.MaxCores {
		for range api.MaxMade {
			seen[b.next(core)]++
		}
	}
	for num := 2; num < len(seen); num++ {
		if seen[num] != 1 {
			t.Errorf("%d was given %d times", num, seen[num])
		}
	}
}

// P10.1: a core's MaxMade-th number, and one more, while others still have some.
func TestOneCoreIsFull(t *testing.T) {
	for full := range 3 {
		b := makeBook(t, 3, 2, 2)
		other := (full + 1) % 3
		b.next(other)
		for range api.MaxMade - 1 {
			b.next(full)
		}
		if num, e := b.x.Next(full); num != 2+full+8*31 || e != api.OK {
			t.Errorf("core %d's last number: %d, error %d", full, num, e)
		}
		for range 3 {
			if num, e := b.x.Next(full); num != 0 || e != api.ErrInumFull {
				t.Errorf("core %d, full: %d, error %d", full, num, e)
			}
			b.given[full] = api.MaxMade
			b.next(other)
			b.next((full + 2) % 3)
		}
		b.fill()
		b.close()
	}
}

// P10.1: from 0 and from further on, words that just fit the arena, and one word too few.
func TestWordsThatJustFit(t *testing.T) {
	for cores := 1; cores <= api.MaxCores; cores++ {
		for _, from := range []int{0, 1, 2, 7, 8, 50, 1000, api.MaxArena - cores} {
			b := makeBook(t, cores, from, 0)
			b.fill()
			b.close()
			if from+cores == 1 {
				continue // an arena has a word at least
			}
			a := makeArena(t, from+cores-1, cores)
			words := allWords(a)
			if x, e := inum.New(a, from); x != nil || e != api.ErrInumCore {
				t.Errorf("%d cores, from %d, one word too few: error %d", cores, from, e)
			}
			wantQuiet(t, a, words)
		}
	}
}

// P10.1: an arena of one word and one core.
func TestTheLeastArena(t *testing.T) {
	b := makeBook(t, 1, 0, 0)
	b.fill()
	if x, e := inum.New(b.a, 1); x != nil || e != api.ErrInumCore {
		t.Errorf("from 1: error %d", e)
	}
}

// P10.1: whatever the words held ahead of New, each core was given none.
func TestWordsThatHadOtherValues(t *testing.T) {
	for _, v := range []int{1, 2, 31, 32, 33, 77, -1, -32, math.MaxInt, math.MinInt} {
		a := makeArena(t, 12, 4)
		for at := range 4 {
			a.Store(at, 5+at, v)
		}
		b := bookAt(t, a, 5)
		b.fill()
		b.close()
	}
}

// P10.1: Nums made where others were begin anew.
func TestNewAgain(t *testing.T) {
	b := makeBook(t, 3, 6, 1)
	b.fill()
	bookAt(t, b.a, 6).next(2)
	again := bookAt(t, b.a, 6)
	again.fill()
	again.close()
}

// P10.1: Nums side by side in one arena know nothing of each other, nor does a New beside them.
func TestSideBySide(t *testing.T) {
	const cores = 3
	a := makeArena(t, 4*cores, cores)
	books := []*book{bookAt(t, a, 3), bookAt(t, a, 6), bookAt(t, a, 0)}
	g := row(3)
	for range 250 {
		books[g.below(3)].next(g.below(cores))
		if g.below(10) == 0 {
			bookAt(t, a, 9)
		}
	}
	for _, b := range books {
		b.fill()
	}
}

// P10.1: of two arenas each has its own.
func TestTwoArenas(t *testing.T) {
	one, two := makeBook(t, 2, 3, 3), makeBook(t, 4, 3, 3)
	one.fill()
	two.next(1)
	two.next(3)
	two.fill()
	one.close()
	two.close()
}

// P10.1: Core of numbers from 2 on.
func TestCore(t *testing.T) {
	for num := 2; num < 2000; num++ {
		if got, want := inum.Core(num), (num-2)%8; got != want {
			t.Errorf("Core(%d): %d, want %d", num, got, want)
		}
	}
	far := map[int]int{
		2: 0, 3: 1, 9: 7, 2 + api.MaxCores: 0, 257: 7, 258: 0, 1<<31 - 1: 5, 1 << 32: 6, 1<<32 + 2: 0,
		math.MaxInt: 5, math.MaxInt - 5: 0, math.MaxInt - 6: 7,
	}
	for num, want := range far {
		if got := inum.Core(num); got != want {
			t.Errorf("Core(%d): %d, want %d", num, got, want)
		}
	}
}
