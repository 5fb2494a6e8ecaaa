package pmem_test

import (
	"math"
	"testing"

	"concourse/api"
	"concourse/pmem"
)

// sixSteps does six steps on a memory of two lines.
func sixSteps(t *testing.T, m *pmem.Mem) {
	t.Helper()
	wantOK(t, m.Store(0, 1), m.Flush(0), m.Fence(), m.Store(8, 2), m.Store(1, 3), m.Flush(0))
}

// P1.2: each step works till the fuse's end, and none behind it, but that Stores are seen.
func TestFuseEnds(t *testing.T) {
	none := [3]uint64{}
	kept := [][3]uint64{none, {1, 0, 0}, {1, 0, 0}, {1, 0, 0}, {1, 2, 0}, {1, 2, 3}, {1, 2, 3}, {1, 2, 3}}
	lasting := [][3]uint64{none, none, none, {1, 0, 0}, {1, 0, 0}, {1, 0, 0}, {1, 0, 0}, {1, 0, 3}}
	for steps := range kept {
		for keep, want := range [][3]uint64{lasting[steps], kept[steps]} {
			m := makeMem(t, 2)
			wantOK(t, m.Fuse(steps))
			sixSteps(t, m)
			wantOK(t, m.Fence())
			wantWord(t, m, 0, 1)
			wantWord(t, m, 8, 2)
			wantWord(t, m, 1, 3)
			wantCounts(t, m, 7, 3)
			wantOK(t, m.Crash(-keep&3)) // every line or none
			wantWord(t, m, 0, want[0])
			wantWord(t, m, 8, want[1])
			wantWord(t, m, 1, want[2])
			wantCounts(t, m, 7, 3)
		}
	}
}

// P1.2: a line that is unlike what lasts only behind the fuse's end takes no bit, one that was unlike at it does.
func TestFuseSeenAtItsEnd(t *testing.T) {
	m := makeMem(t, 3)
	wantOK(t, m.Fuse(1), m.Store(8, 1), m.Store(0, 2), m.Store(8, 0), m.Store(16, 3))
	wantWord(t, m, 8, 0)
	wantOK(t, m.Crash(1))
	for at, want := range map[int]uint64{0: 0, 8: 1, 16: 0} {
		wantWord(t, m, at, want)
	}
}

// P1.2: a fuse of 0 steps is at its end at once.
func TestFuseOfNone(t *testing.T) {
	m := makeMem(t, 1)
	wantOK(t, m.Store(0, 1), m.Flush(0), m.Fuse(0), m.Store(1, 2), m.Fence(), m.Store(0, 5), m.Flush(0), m.Fence())
	wantWord(t, m, 0, 5)
	wantOK(t, m.Crash(1))
	wantWord(t, m, 0, 1)
	wantWord(t, m, 1, 0)
}

// P1.2: only Stores, Flushes and Fences that are OK burn a fuse.
func TestFuseBurnsBySteps(t *testing.T) {
	m := makeMem(t, 1)
	wantOK(t, m.Fuse(3))
	for range 5 {
		m.Load(0)
		m.Load(-1)
		m.Store(8, 1)
		m.Flush(1)
		m.Fuse(-1)
		m.Words()
		m.Steps()
		m.Stores()
		m.Copy()
	}
	wantOK(t, m.Store(0, 1), m.Flush(0), m.Fence(), m.Store(0, 2), m.Flush(0), m.Fence(), m.Crash(1))
	wantWord(t, m, 0, 1)
}

// P1.2: a second fuse ahead of the first one's end takes its place, shorter or longer.
func TestSecondFuseAhead(t *testing.T) {
	for second, want := range []uint64{0, 0, 0, 1, 1} {
		m := makeMem(t, 1)
		wantOK(t, m.Fuse(4), m.Fence(), m.Fuse(second))
		wantOK(t, m.Store(0, 1), m.Flush(0), m.Fence(), m.Crash(0))
		wantWord(t, m, 0, want)
	}
	m := makeMem(t, 1)
	wantOK(t, m.Fuse(1), m.Fuse(math.MaxInt), m.Store(0, 1), m.Flush(0), m.Fence(), m.Crash(0))
	wantWord(t, m, 0, 1)
}

// P1.2: a second fuse behind the first one's end does nothing.
func TestSecondFuseBehind(t *testing.T) {
	for _, second := range []int{0, 1, 9, math.MaxInt} {
		m := makeMem(t, 1)
		wantOK(t, m.Fuse(1), m.Store(0, 1), m.Fuse(second), m.Store(0, 2), m.Flush(0), m.Fence())
		wantOK(t, m.Fuse(second), m.Crash(1))
		wantWord(t, m, 0, 1)
		m = makeMem(t, 1)
		wantOK(t, m.Fuse(0), m.Store(0, 1), m.Fuse(second), m.Store(0, 2), m.Crash(1))
		wantWord(t, m, 0, 0)
	}
}

// P1.2: a fuse below 0 is refused, ahead of an elder one's end and behind it, and leaves that as it is.
func TestFuseRefused(t *testing.T) {
	for _, steps := range []int{-1, -2, math.MinInt} {
		for first, want := range []uint64{0, 1} {
			m := makeMem(t, 1)
			wantOK(t, m.Fuse(first))
			if e := m.Fuse(steps); e != api.ErrPmemFuse {
				t.Errorf("Fuse(%d): error %d", steps, e)
			}
			wantOK(t, m.Store(0, 1), m.Store(0, 2))
			if e := m.Fuse(steps); e != api.ErrPmemFuse {
				t.Errorf("Fuse(%d): error %d", steps, e)
			}
			wantOK(t, m.Crash(1))
			wantWord(t, m, 0, want)
		}
		m := makeMem(t, 1)
		m.Fuse(steps)
		wantOK(t, m.Store(0, 1), m.Flush(0), m.Fence(), m.Crash(0))
		wantWord(t, m, 0, 1)
	}
}

// P1.2: a crash takes the fuse away, whether it was at its end or not.
func TestCrashTakesFuse(t *testing.T) {
	for _, steps := range []int{0, 1, 5} {
		m := makeMem(t, 1)
		wantOK(t, m.Fuse(steps), m.Store(0, 9), m.Crash(0))
		wantOK(t, m.Store(0, 1), m.Flush(0), m.Fence(), m.Store(1, 2), m.Flush(0), m.Fence(), m.Crash(0))
		wantWord(t, m, 0, 1)
		wantWord(t, m, 1, 2)
		wantOK(t, m.Fuse(1), m.Store(2, 3), m.Store(2, 4), m.Crash(1))
		wantWord(t, m, 2, 3)
	}
}

// P1.2: what was on its way at the fuse's end is so no more behind the crash.
func TestFuseLeavesNothingOnItsWay(t *testing.T) {
	m := makeMem(t, 1)
	wantOK(t, m.Fuse(2), m.Store(0, 1), m.Flush(0), m.Flush(0), m.Crash(0), m.Fence(), m.Crash(0))
	wantWord(t, m, 0, 0)
}
