package sched_test

import (
	"math"
	"slices"
	"testing"

	"concourse/sched"
)

// marks reads a step's list: 'x' is ready, '.' is not.
func marks(text string) []bool {
	list := []bool{}
	for _, mark := range text {
		list = append(list, mark == 'x')
	}
	return list
}

func wantPick(t *testing.T, ready string, pick int, want int) {
	t.Helper()
	if at, is := sched.Pick(marks(ready), pick); at != want || !is {
		t.Errorf("Pick(%s, %d): %d, %v, want %d", ready, pick, at, is, want)
	}
}

func wantNoPick(t *testing.T, ready []bool, pick int) {
	t.Helper()
	if at, is := sched.Pick(ready, pick); at != 0 || is {
		t.Errorf("Pick(%v, %d): %d, %v, want none", ready, pick, at, is)
	}
}

func wantTurns(t *testing.T, cores int, picks []int, want ...int) {
	t.Helper()
	if got := sched.Turns(cores, picks); !slices.Equal(got, want) {
		t.Errorf("Turns(%d, %v): %v, want %v", cores, picks, got, want)
	}
}

// P3.1: picks from 0 on go through the places that are ready, rising, and begin anew at k.
func TestPickGoesRound(t *testing.T) {
	const ready = ".xx.x."
	for pick, want := range []int{1, 2, 4, 1, 2, 4, 1} {
		wantPick(t, ready, pick, want)
	}
	wantPick(t, "x....x", 0, 0)
	wantPick(t, "x....x", 1, 5)
	wantPick(t, "x....x", 2, 0)
}

// P3.1: whatever the pick, the one place that is ready is picked.
func TestPickOfOne(t *testing.T) {
	for _, pick := range []int{0, 1, 2, 99, math.MaxInt, -1, -2, math.MinInt} {
		wantPick(t, "x", pick, 0)
		wantPick(t, "..x", pick, 2)
		wantPick(t, ".x.", pick, 1)
	}
}

// P3.1: where all are ready the place is the pick modulo how many there are.
func TestPickOfAll(t *testing.T) {
	for pick := range 20 {
		wantPick(t, "xxxxxxxx", pick, pick%8)
		wantPick(t, "xxxxx", pick, pick%5)
	}
}

// P3.1: picks at the ends of int, and below 0, are unsigned numbers of 64 bits.
func TestPickIsUnsigned(t *testing.T) {
	// 2^63 - 1 is 1 modulo 3, 2^63 is 2, 2^64 - 1 is 0, 2^64 - 2 is 2.
	wantPick(t, "x.x.x", math.MaxInt, 2)
	wantPick(t, "x.x.x", math.MinInt, 4)
	wantPick(t, "x.x.x", -1, 0)
	wantPick(t, "x.x.x", -2, 4)
	// 2^63 - 1 is 2 modulo 5, 2^63 is 3, 2^64 - 1 is 0, 2^64 - 2 is 4.
	wantPick(t, "xxxxx", math.MaxInt, 2)
	wantPick(t, "xxxxx", math.MinInt, 3)
	wantPick(t, "xxxxx", -1, 0)
	wantPick(t, "xxxxx", -2, 4)
	// A power of two: the lowest bits alone.
	wantPick(t, "xxxx", -1, 3)
	wantPick(t, "xxxx", -4, 0)
	wantPick(t, "xxxx", math.MinInt, 0)
	wantPick(t, "xxxx", math.MaxInt, 3)
}

// P3.1: none ready, whether there are places or not.
func TestPickOfNone(t *testing.T) {
	for _, pick := range []int{0, 1, 7, -1, math.MaxInt, math.MinInt} {
		wantNoPick(t, nil, pick)
		wantNoPick(t, []bool{}, pick)
		wantNoPick(t, marks("."), pick)
		wantNoPick(t, marks("........"), pick)
	}
}

// P3.1: each pick of a row is taken modulo cores.
func TestTurns(t *testing.T) {
	wantTurns(t, 4, []int{0, 1, 2, 3, 4, 5, 6, 7, 8, 0}, 0, 1, 2, 3, 0, 1, 2, 3, 0, 0)
	wantTurns(t, 3, []int{9, 10, 2}, 0, 1, 2)
	wantTurns(t, 3, []int{math.MaxInt, math.MinInt, -1, -2}, 1, 2, 0, 2)
	wantTurns(t, 5, []int{math.MaxInt, math.MinInt, -1, -2}, 2, 3, 0, 4)
	wantTurns(t, 8, []int{-1, -8, -9}, 7, 0, 7)
	wantTurns(t, math.MaxInt, []int{math.MaxInt, math.MaxInt - 1, math.MinInt, -1}, 0, math.MaxInt-1, 1, 1)
}

// P3.1: of one core each turn is its own.
func TestTurnsOfOneCore(t *testing.T) {
	wantTurns(t, 1, []int{0, 1, 5, math.MaxInt, -1, math.MinInt}, 0, 0, 0, 0, 0, 0)
}

// P3.1: no picks, no turns; and none below one core.
func TestTurnsOfNone(t *testing.T) {
	for _, cores := range []int{1, 3, math.MaxInt, 0, -1, math.MinInt} {
		wantTurns(t, cores, nil)
		wantTurns(t, cores, []int{})
	}
	for _, cores := range []int{0, -1, -3, math.MinInt} {
		wantTurns(t, cores, []int{0, 1, 2, -1, math.MaxInt})
	}
}

// R4: lists that are handed in stay as they were, their spare room too, and an answer is new memory.
func TestPickAndTurnsLeaveLists(t *testing.T) {
	ready := marks("x.xx.xx")
	short := ready[:3]
	if at, is := sched.Pick(short, 1); at != 2 || !is {
		t.Errorf("%d, %v", at, is)
	}
	if !slices.Equal(ready, marks("x.xx.xx")) {
		t.Errorf("ready was changed: %v", ready)
	}
	picks := []int{7, -1, 5, 100, 200}
	turns := sched.Turns(2, picks[:3])
	if !slices.Equal(turns, []int{1, 1, 1}) {
		t.Errorf("%v", turns)
	}
	again := sched.Turns(2, picks[:3])
	for i := range turns {
		turns[i] = 77
	}
	_ = append(turns, 88)
	if !slices.Equal(picks, []int{7, -1, 5, 100, 200}) || !slices.Equal(again, []int{1, 1, 1}) {
		t.Errorf("picks %v, another answer %v", picks, again)
	}
}
