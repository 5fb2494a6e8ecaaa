package sched_test

import (
	"math"
	"slices"
	"strings"
	"testing"

	"concourse/sched"
)

// steps reads lists of steps, parted by blanks; "-" is a step without cores.
func steps(text string) [][]bool {
	lists := [][]bool{}
	for _, part := range strings.Fields(text) {
		lists = append(lists, marks(strings.Trim(part, "-")))
	}
	return lists
}

func wantFair(t *testing.T, want bool, ready string, window int, picked ...int) {
	t.Helper()
	if got := sched.Fair(steps(ready), picked, window); got != want {
		t.Errorf("Fair(%s, %v, %d): %v", ready, picked, window, got)
	}
}

// P3.2: each core that waits is picked in time, or not.
func TestFair(t *testing.T) {
	wantFair(t, true, "xx xx xx xx", 2, 0, 1, 0, 1)
	wantFair(t, false, "xx xx xx xx", 2, 0, 1, 1, 0)
	wantFair(t, false, "xx xx xx xx", 2, 0, 0, 1, 0)
	wantFair(t, false, "xx xx xx xx", 2, 0, 1, 0, 0)
	wantFair(t, true, "xxx xxx xxx xxx xxx", 3, 2, 0, 1, 2, 0)
	wantFair(t, false, "xxx xxx xxx xxx xxx", 3, 2, 0, 1, 0, 2)
	wantFair(t, true, "xxx xxx xxx xxx xxx", 4, 2, 0, 1, 0, 2)
}

// P3.2: of a window of 1 each core that is ready must be the picked one.
func TestFairWindowOfOne(t *testing.T) {
	wantFair(t, true, "x. .x x.", 1, 0, 1, 0)
	wantFair(t, false, "x. .x x.", 1, 0, 1, 1)
	wantFair(t, false, "x. xx x.", 1, 0, 1, 0)
	wantFair(t, false, "x", 1, 1)
	wantFair(t, true, "x", 1, 0)
	wantFair(t, true, ". .. - ...", 1, 0, 0, 0, 0)
}

// P3.2: a window as long as the lists is asked once, a longer one never.
func TestFairLongWindow(t *testing.T) {
	wantFair(t, false, "xx xx xx", 3, 0, 0, 0)
	wantFair(t, true, "xx xx xx", 3, 0, 0, 1)
	wantFair(t, true, "xx xx xx", 3, 1, 0, 0)
	wantFair(t, true, "xx xx xx", 4, 0, 0, 0)
	wantFair(t, true, "xx xx xx", math.MaxInt, 0, 0, 0)
	wantFair(t, true, "xx", 2, 0)
}

// P3.2: a window below 1 is fair, whatever was picked.
func TestFairWindowBelowOne(t *testing.T) {
	for _, window := range []int{0, -1, -2, math.MinInt} {
		wantFair(t, true, "xx xx xx", window, 0, 0, 0)
		wantFair(t, true, "xx xx xx", window, 9, -9, 9)
		wantFair(t, true, "xx xx xx", window)
		wantFair(t, true, "", window)
	}
}

// P3.2: steps that one of the lists alone has are not asked.
func TestFairUnlikeLengths(t *testing.T) {
	wantFair(t, true, "xx xx xx xx xx", 2, 0, 1)
	wantFair(t, false, "xx xx xx xx xx", 2, 0, 0)
	wantFair(t, true, "xx xx xx xx xx", 3, 0, 0)
	wantFair(t, true, "xx xx xx xx xx", 2, 0)
	wantFair(t, true, "xx xx", 2, 0, 1, 1, 1, 1)
	wantFair(t, false, "xx xx", 2, 1, 1, 0, 0, 0)
	wantFair(t, true, "xx xx", 3, 1, 1, 1, 1)
}

// P3.2: empty and nil lists have no step.
func TestFairNoSteps(t *testing.T) {
	for _, window := range []int{1, 2, math.MaxInt, 0, -1} {
		for _, ready := range [][][]bool{nil, {}, steps("xx xx")} {
			for _, picked := range [][]int{nil, {}} {
				if !sched.Fair(ready, picked, window) {
					t.Errorf("Fair(%v, %v, %d) is false", ready, picked, window)
				}
			}
		}
		if !sched.Fair(nil, []int{0, 1}, window) || !sched.Fair([][]bool{nil, nil}, []int{0, 1}, window) {
			t.Errorf("no core is ready, window %d", window)
		}
	}
}

// P3.2: a core is not ready at a step whose list is too short to have it.
func TestFairStepsOfFewerCores(t *testing.T) {
	wantFair(t, true, "xx x xx", 2, 0, 0, 0)
	wantFair(t, true, "xxx xx xxx x xxx", 2, 0, 1, 0, 5, 0)
	wantFair(t, false, "xxx x xxx xxx", 2, 0, 0, 1, 0)
	wantFair(t, true, "xxx - xxx", 2, 0, 0, 0)
	wantFair(t, false, "- xx xx", 2, 0, 0, 0)
	wantFair(t, false, "x xx xxx xxxx xxxx", 2, 0, 0, 1, 0, 2)
	wantFair(t, true, "x xx xxx xxxx", 3, 0, 0, 1, 2)
	wantFair(t, false, "xxxx xxx xx", 3, 2, 2, 0)
	wantFair(t, true, "xxxx xxx xx", 3, 1, 2, 0)
	// Core 2 waits at two steps, is missing at one, and waits at two more.
	wantFair(t, true, "xxx xxx xx xxx xxx", 3, 0, 1, 0, 1, 0)
	wantFair(t, false, "xxx xxx xxx xxx xxx", 3, 0, 1, 0, 1, 0)
}

// P3.2: a core that is ready at all but one step of a window need not be picked, wherever that step is.
func TestFairAllButOne(t *testing.T) {
	wantFair(t, true, "x. xx xx", 3, 0, 0, 0)
	wantFair(t, true, "xx x. xx", 3, 0, 0, 0)
	wantFair(t, true, "xx xx x.", 3, 0, 0, 0)
	wantFair(t, false, "xx xx xx", 3, 0, 0, 0)
	wantFair(t, true, "xx xx x. xx xx", 3, 0, 0, 0, 0, 0)
	wantFair(t, false, "xx xx x. xx xx xx", 3, 0, 0, 0, 0, 0, 0)
	wantFair(t, false, "xx xx xx x. xx xx", 3, 0, 0, 0, 0, 0, 0)
}

// P3.2: a core that is picked at a step at which it is not ready was not ready at all of the window.
func TestFairPickedNotReady(t *testing.T) {
	wantFair(t, true, "xx x. xx", 2, 0, 1, 0)
	wantFair(t, false, "x. .x xx xx", 2, 1, 0, 0, 0)
}

// P3.2: a picked core that there is not is nobody's turn.
func TestFairPickedNobody(t *testing.T) {
	for _, nobody := range []int{2, 3, 99, math.MaxInt, -1, -2, math.MinInt} {
		wantFair(t, false, "xx xx", 1, 0, nobody)
		wantFair(t, false, "xx xx", 2, 0, nobody)
		wantFair(t, false, "x. x.", 2, nobody, nobody)
		wantFair(t, true, "x. x.", 2, 0, nobody)
		wantFair(t, true, "x. .x", 2, nobody, nobody)
		wantFair(t, true, ".. ..", 1, nobody, nobody)
	}
}

// R4: the lists stay as they were, the spare room of each too.
func TestFairLeavesLists(t *testing.T) {
	long := marks("xxxxx")
	ready := [][]bool{long[:2], long[:4], long[:1], long}
	picked := []int{0, 1, 0, 7, 8}
	if sched.Fair(ready[:3], picked[:3], 1) || !sched.Fair(ready[:3], picked[:3], 2) {
		t.Error("another answer")
	}
	if !slices.Equal(long, marks("xxxxx")) || !slices.Equal(picked, []int{0, 1, 0, 7, 8}) {
		t.Errorf("%v, %v", long, picked)
	}
	for i, n := range []int{2, 4, 1, 5} {
		if len(ready[i]) != n {
			t.Errorf("step %d: %v", i, ready[i])
		}
	}
}
