package lock_test

import (
	"math"
	"testing"

	"concourse/api"
	"concourse/lock"
)

// P5.2: a reader that looks, reads and looks again, with no writer between.
func TestAReaderAlone(t *testing.T) {
	a := makeArena(t, 3, 2)
	setWord(t, a, 1, 7)
	seq, even, e := lock.Begin(a, 0, 0)
	v, f := a.Load(0, 1)
	same, g := lock.Same(a, 0, 0, seq)
	if seq != 0 || !even || v != 7 || !same || e != api.OK || f != api.OK || g != api.OK {
		t.Errorf("%d, %v, %d, %v", seq, even, v, same)
	}
}

// P5.2: a reader that looks, reads and looks again, with a writer between, or one that has begun, or ended.
func TestAReaderAndAWriter(t *testing.T) {
	a := makeArena(t, 3, 2)
	wantBegin(t, a, 0, 0, 0, true)
	wantTurn(t, a, 1, 0, 1)
	wantSame(t, a, 0, 0, 1, 0, false)
	wantBegin(t, a, 0, 0, 1, false)
	wantSame(t, a, 0, 0, 1, 1, true)
	setWord(t, a, 1, 8)
	wantTurn(t, a, 1, 0, 2)
	wantSame(t, a, 0, 0, 2, 0, false)
	wantSame(t, a, 0, 0, 2, 1, false)
	wantBegin(t, a, 0, 0, 2, true)
	wantSame(t, a, 0, 0, 2, 2, true)
}

// P5.2: every core, the first and the last among them, on the first and the last word, of least and greatest arenas.
func TestSequenceLocksAtTheEdges(t *testing.T) {
	for _, c := range [][2]int{{1, 1}, {2, 2}, {3, api.MaxCores}, {api.MaxArena, api.MaxCores}} {
		words, cores := c[0], c[1]
		for _, at := range []int{0, words - 1} {
			a := makeArena(t, words, cores)
			now := 0
			for _, core := range []int{0, cores - 1} {
				wantBegin(t, a, core, at, now, true)
				now++
				wantTurn(t, a, core, at, now)
				wantBegin(t, a, core, at, now, false)
				wantSame(t, a, core, at, now, now-1, false)
				wantSame(t, a, core, at, now, now, true)
				now++
				wantTurn(t, a, core, at, now)
			}
		}
	}
}

// P5.2: even and odd words, below 0 too.
func TestEvenAndOddWords(t *testing.T) {
	a := makeArena(t, 2, 2)
	for _, half := range []int{0, 1, -1, 2, -2, 50, -50, 1 << 31, -1 << 31, math.MaxInt / 2, math.MinInt / 2} {
		setWord(t, a, 1, 2*half)
		wantBegin(t, a, 1, 1, 2*half, true)
		setWord(t, a, 1, 2*half+1)
		wantBegin(t, a, 1, 1, 2*half+1, false)
	}
}

// P5.2: Same asks after the whole word, with its sign.
func TestSameOfOtherNumbers(t *testing.T) {
	a := makeArena(t, 2, 2)
	rows := []int{0, 1, -1, 2, -2, 7, -7, 1 << 32, 1<<32 + 1, math.MaxInt, math.MinInt}
	for _, word := range rows {
		setWord(t, a, 1, word)
		for _, seq := range rows {
			wantSame(t, a, 0, 1, word, seq, seq == word)
		}
	}
}

// P5.2: Turn from even to odd and back, over 0, and from the greatest int to the least.
func TestTurns(t *testing.T) {
	a := makeArena(t, 3, 2)
	for _, first := range []int{0, 1, 2, -1, -2, -3, 1 << 31, math.MinInt, math.MinInt + 1, math.MaxInt, math.MaxInt - 1} {
		setWord(t, a, 1, first)
		now := first
		for core := range 2 {
			if now == math.MaxInt {
				now = math.MinInt
			} else {
				now++
			}
			wantTurn(t, a, core, 1, now)
			wantBegin(t, a, 1-core, 1, now, now%2 == 0)
		}
	}
}
