package sched_test

import (
	"slices"
	"testing"

	"concourse/api"
	"concourse/sched"
)

// row is a row of numbers that is the same in each run.
type row uint64

func (r *row) below(n int) int {
	*r = *r*6364136223846793005 + 1442695040888963407
	return int(uint64(*r) >> 33 % uint64(n))
}

// any gives any int, below 0 or not.
func (r *row) any() int {
	return r.below(1<<31)<<33 ^ r.below(1<<31)<<10 ^ r.below(1<<31)
}

func isReady(ready [][]bool, step, core int) bool {
	return core < len(ready[step]) && ready[step][core]
}

// plainFair is the chapter said once more, window by window.
func plainFair(ready [][]bool, picked []int, window int) bool {
	if window < 1 {
		return true
	}
	for i := 0; i+window <= min(len(ready), len(picked)); i++ {
		for core := range ready[i] {
			all := true
			for step := i; step < i+window; step++ {
				all = all && isReady(ready, step, core)
			}
			if all && !slices.Contains(picked[i:i+window], core) {
				return false
			}
		}
	}
	return true
}

// plainPick goes round the places, one by one, pick modulo k times past the first.
func plainPick(ready []bool, pick int) (int, bool) {
	k := 0
	for _, is := range ready {
		if is {
			k++
		}
	}
	if k == 0 {
		return 0, false
	}
	left := uint64(pick) % uint64(k)
	for at := 0; ; at++ {
		if ready[at] && left == 0 {
			return at, true
		}
		if ready[at] {
			left--
		}
	}
}

// someReady gives a list of up to most cores, nearly all, or few, of them ready.
func someReady(r *row, most int) []bool {
	list := make([]bool, r.below(most+1))
	few := r.below(5)
	for at := range list {
		list[at] = r.below(5) >= few
	}
	return list
}

// P3.1: Pick and Turns answer what the plain ones answer.
func TestPicksAgainstPlain(t *testing.T) {
	r := row(3)
	for range 20000 {
		ready, pick := someReady(&r, 12), r.any()
		at, is := sched.Pick(ready, pick)
		if want, wantIs := plainPick(ready, pick); at != want || is != wantIs {
			t.Fatalf("Pick(%v, %d): %d, %v, want %d, %v", ready, pick, at, is, want, wantIs)
		}
		cores := 1 + r.below(12)
		got := sched.Turns(cores, []int{pick, pick + 1})
		want := []int{int(uint64(pick) % uint64(cores)), int(uint64(pick+1) % uint64(cores))}
		if !slices.Equal(got, want) {
			t.Fatalf("Turns(%d, %d and one more): %v, want %v", cores, pick, got, want)
		}
	}
}

// P3.2: Fair answers what the plain one answers, and both answers come often.
func TestFairAgainstPlain(t *testing.T) {
	r := row(5)
	fair := 0
	const many = 20000
	for range many {
		ready := make([][]bool, r.below(10))
		most := 1 + r.below(4)
		for i := range ready {
			ready[i] = someReady(&r, most)
		}
		picked := make([]int, r.below(10))
		for i := range picked {
			picked[i] = r.below(most+2) - 1
		}
		window := r.below(6)
		got := sched.Fair(ready, picked, window)
		if got != plainFair(ready, picked, window) {
			t.Fatalf("Fair(%v, %v, %d): %v", ready, picked, window, got)
		}
		if got {
			fair++
		}
	}
	if fair < many/10 || fair > many-many/10 {
		t.Errorf("%d of %d are fair: the rows are too much alike", fair, many)
	}
}

// P3.1, P3.2: turns one by one are fair for a window of as many steps as there are cores, and for no shorter one.
func TestTurnsInARowAreFair(t *testing.T) {
	for cores := 2; cores <= api.MaxCores; cores++ {
		picks := make([]int, 50)
		ready := make([][]bool, 50)
		for i := range picks {
			picks[i] = i
			ready[i] = slices.Repeat([]bool{true}, cores)
		}
		turns := sched.Turns(cores, picks)
		if !sched.Fair(ready, turns, cores) || sched.Fair(ready, turns, cores-1) {
			t.Errorf("%d cores", cores)
		}
	}
}

// Lists are walked once: a window half as long as many steps, and one wide step ahead of many narrow ones, cost little.
func TestLongListsEnd(t *testing.T) {
	const many = 1 << 17
	picked := make([]int, many)
	ready := make([][]bool, many)
	for i := range ready {
		picked[i] = i % api.MaxCores
		ready[i] = slices.Repeat([]bool{true}, api.MaxCores)
	}
	if !sched.Fair(ready, picked, many/2) || sched.Fair(ready, picked, api.MaxCores-1) {
		t.Error("another answer")
	}
	wide := slices.Repeat([]bool{true}, 1<<20)
	ready[0] = wide
	for i := range ready[1:] {
		ready[1+i] = []bool{true}
		picked[i] = i % 2
	}
	if !sched.Fair(ready, picked, 2) || sched.Fair(ready, picked, 1) {
		t.Error("another answer")
	}
	if at, is := sched.Pick(wide, len(wide)+5); at != 5 || !is {
		t.Errorf("%d, %v", at, is)
	}
}
