package lock_test

import (
	"math"
	"testing"

	"concourse/api"
)

// P5.1: one core holds a lock, another tries it, the holder unlocks it, the other gets it.
func TestALockGoesFromCoreToCore(t *testing.T) {
	a := makeArena(t, 5, 3)
	const at = 2
	wantHolder(t, a, 1, at, 0, -1)
	wantTry(t, a, 0, at, 1, true)
	wantTry(t, a, 2, at, 1, false)
	for core := range 3 {
		wantHolder(t, a, core, at, 1, 0)
	}
	wantNotHeld(t, a, 2, at, 1)
	wantUnlock(t, a, 0, at)
	wantHolder(t, a, 0, at, 0, -1)
	wantTry(t, a, 2, at, 3, true)
	wantTry(t, a, 0, at, 3, false)
	wantNotHeld(t, a, 0, at, 3)
	wantHolder(t, a, 0, at, 3, 2)
	wantUnlock(t, a, 2, at)
	wantNotHeld(t, a, 2, at, 0)
}

// P5.1: a core that holds a lock does not get it again, and holds it no more behind one Unlock.
func TestALockIsHeldOnce(t *testing.T) {
	a := makeArena(t, 1, 1)
	wantTry(t, a, 0, 0, 1, true)
	wantTry(t, a, 0, 0, 1, false)
	wantTry(t, a, 0, 0, 1, false)
	wantUnlock(t, a, 0, 0)
	wantNotHeld(t, a, 0, 0, 0)
	wantTry(t, a, 0, 0, 1, true)
}

// P5.1: every core, the first and the last among them, on the first and the last word, of least and greatest arenas.
func TestSpinLocksAtTheEdges(t *testing.T) {
	for _, c := range [][2]int{{1, 1}, {2, 2}, {3, api.MaxCores}, {api.MaxArena, api.MaxCores}} {
		words, cores := c[0], c[1]
		a := makeArena(t, words, cores)
		for _, at := range []int{0, words - 1} {
			for _, core := range []int{0, cores - 1} {
				other := (core + 1) % cores
				wantTry(t, a, core, at, core+1, true)
				wantTry(t, a, core, at, core+1, false)
				wantTry(t, a, other, at, core+1, false)
				wantHolder(t, a, other, at, core+1, core)
				if other != core {
					wantNotHeld(t, a, other, at, core+1)
				}
				wantUnlock(t, a, core, at)
				wantHolder(t, a, core, at, 0, -1)
			}
		}
	}
}

// P5.1: each pair of a holder and a core that calls.
func TestEachHolderAndEachCaller(t *testing.T) {
	for cores := 1; cores <= api.MaxCores; cores++ {
		a := makeArena(t, 3, cores)
		for holder := range cores {
			wantTry(t, a, holder, 1, holder+1, true)
			for core := range cores {
				wantTry(t, a, core, 1, holder+1, false)
				wantHolder(t, a, core, 1, holder+1, holder)
				if core != holder {
					wantNotHeld(t, a, core, 1, holder+1)
				}
			}
			wantUnlock(t, a, holder, 1)
			for core := range cores {
				wantNotHeld(t, a, core, 1, 0)
				wantHolder(t, a, core, 1, 0, -1)
			}
		}
	}
}

// P5.1: a word that is none of a core is held by none, is not to be had, and stays.
func TestWordsThatAreNoCores(t *testing.T) {
	for cores := 1; cores <= api.MaxCores; cores++ {
		a := makeArena(t, 3, cores)
		rows := []int{-1, -2, -cores, -cores - 1, cores + 1, cores + 2, api.MaxCores + 1, 99, 1 << 32, 1<<32 + 1, math.MaxInt, math.MinInt, math.MinInt + 1}
		for _, word := range rows {
			for core := range cores {
				setWord(t, a, 1, word)
				wantHolder(t, a, core, 1, word, -1)
				wantTry(t, a, core, 1, word, false)
				wantNotHeld(t, a, core, 1, word)
			}
		}
	}
}

// P5.1: locks of several words are held beside each other, by one core too.
func TestLocksBesideEachOther(t *testing.T) {
	a := makeArena(t, 4, 3)
	wantTry(t, a, 0, 0, 1, true)
	wantTry(t, a, 1, 1, 2, true)
	wantTry(t, a, 1, 2, 2, true)
	wantTry(t, a, 2, 3, 3, true)
	wantUnlock(t, a, 1, 1)
	for at, want := range []int{0, -1, 1, 2} {
		wantHolder(t, a, 0, at, want+1, want)
	}
}

// P5.1: what a word is, is told whoever wrote it.
func TestWordsAreTakenAsTheyAre(t *testing.T) {
	a := makeArena(t, 2, 4)
	setWord(t, a, 1, 3)
	wantHolder(t, a, 0, 1, 3, 2)
	wantNotHeld(t, a, 0, 1, 3)
	wantUnlock(t, a, 2, 1)
	wantTry(t, a, 3, 1, 4, true)
	setWord(t, a, 1, 0)
	wantTry(t, a, 0, 1, 1, true)
}
