package pmem_test

import (
	"testing"

	"concourse/api"
	"concourse/pmem"
)

// P1.2: a copy has all that the other has, and neither tells what is done to the other.
func TestCopyStandsAlone(t *testing.T) {
	m := makeMem(t, 2)
	wantOK(t, m.Store(0, 1), m.Flush(0), m.Fence(), m.Store(0, 2), m.Flush(0), m.Store(0, 3), m.Store(8, 4))
	o := m.Copy()
	if o == nil || o == m || o.Words() != 16 {
		t.Fatal("no copy")
	}
	wantCounts(t, o, 7, 4)
	wantOK(t, m.Store(0, 7), m.Store(8, 7), m.Flush(1), m.Flush(0), m.Fence())
	wantCounts(t, o, 7, 4)
	wantWord(t, o, 0, 3)
	wantWord(t, o, 8, 4)
	third := o.Copy()
	wantOK(t, o.Fence(), o.Crash(0))
	wantWord(t, o, 0, 2)
	wantWord(t, o, 8, 0)
	wantOK(t, third.Crash(0))
	wantWord(t, third, 0, 1)
	wantOK(t, m.Crash(0))
	wantWord(t, m, 0, 7)
	wantWord(t, m, 8, 7)
}

// P1.2: a copy of a line that is on its way and not stored to since takes it along.
func TestCopyTakesTheWayAlong(t *testing.T) {
	m := makeMem(t, 1)
	wantOK(t, m.Store(0, 1), m.Flush(0))
	o := m.Copy()
	wantOK(t, m.Store(0, 2), o.Store(0, 3), o.Fence(), m.Fence(), o.Crash(0), m.Crash(0))
	wantWord(t, o, 0, 1)
	wantWord(t, m, 0, 1)
}

// P1.2: a copy has a fuse of its own, with as many steps left, or at its end.
func TestCopyWithItsFuse(t *testing.T) {
	for steps := range 5 {
		m := makeMem(t, 1)
		wantOK(t, m.Fuse(steps), m.Store(0, 1))
		o := m.Copy()
		for _, x := range []*pmem.Mem{o, m} {
			wantOK(t, x.Fuse(0)) // nothing behind the end; else it is at its end now
			wantOK(t, x.Store(0, 9), x.Crash(1))
			wantWord(t, x, 0, uint64(min(steps, 1)))
		}
		m = makeMem(t, 1)
		wantOK(t, m.Fuse(steps), m.Store(0, 1))
		o = m.Copy()
		wantOK(t, m.Flush(0), m.Fence(), m.Fence(), m.Fence()) // burns one fuse, not the other
		wantOK(t, o.Flush(0), o.Fence(), o.Store(0, 2), o.Crash(0))
		want := uint64(0)
		if steps >= 3 {
			want = 1
		}
		wantWord(t, o, 0, want)
		wantOK(t, m.Crash(0))
		wantWord(t, m, 0, want)
	}
}

// P1.2: a fuse that is lit on one of the two is not lit on the other.
func TestFuseOfOneOfTwo(t *testing.T) {
	m := makeMem(t, 1)
	o := m.Copy()
	wantOK(t, o.Fuse(0), m.Store(0, 1), m.Flush(0), m.Fence(), m.Crash(0))
	wantWord(t, m, 0, 1)
	wantOK(t, m.Fuse(0))
	third := m.Copy()
	wantOK(t, third.Crash(0), third.Store(0, 2), third.Flush(0), third.Fence(), third.Crash(0))
	wantWord(t, third, 0, 2)
	wantOK(t, m.Store(0, 3), m.Crash(1))
	wantWord(t, m, 0, 1)
}

// R3: a nil memory.
func TestNilMemory(t *testing.T) {
	var m *pmem.Mem
	if v, e := m.Load(-1); v != 0 || e != api.ErrNil {
		t.Errorf("Load: %d, error %d", v, e)
	}
	for i, e := range []api.Errno{m.Store(0, 1), m.Store(-1, 1), m.Flush(0), m.Flush(-1), m.Fence(), m.Fuse(1), m.Fuse(-1), m.Crash(0), m.Crash(-1)} {
		if e != api.ErrNil {
			t.Errorf("answer %d: error %d", i, e)
		}
	}
	if m.Words() != 0 || m.Copy() != nil {
		t.Error("words or a copy of a nil memory")
	}
	wantCounts(t, m, 0, 0)
}

// R1: a memory that New did not make has no place, and nothing panics.
func TestZeroMemory(t *testing.T) {
	m := new(pmem.Mem)
	if v, e := m.Load(0); v != 0 || e != api.ErrPmemPlace {
		t.Errorf("Load: %d, error %d", v, e)
	}
	if m.Store(0, 1) != api.ErrPmemPlace || m.Flush(0) != api.ErrPmemPlace || m.Words() != 0 {
		t.Error("a place in no words")
	}
	wantOK(t, m.Fence(), m.Fuse(1), m.Fence(), m.Fence(), m.Copy().Crash(3), m.Crash(1), m.Fuse(0), m.Crash(-1))
	wantCounts(t, m, 3, 0)
}
