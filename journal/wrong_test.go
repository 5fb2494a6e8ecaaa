package journal_test

import (
	"math"
	"slices"
	"testing"

	"concourse/api"
	"concourse/journal"
	"concourse/pmem"
)

// refused wants that New and Open answer an error, and that the memory is as it was.
func refused(t *testing.T, m *pmem.Mem, p place, want api.Errno) {
	t.Helper()
	seen, steps := seenIn(m), m.Steps()
	if j, e := journal.New(m, p.from, p.words); j != nil || e != want {
		t.Errorf("New(%d, %d): error %d, want %d", p.from, p.words, e, want)
	}
	if j, e := journal.Open(m, p.from, p.words); j != nil || e != want {
		t.Errorf("Open(%d, %d): error %d, want %d", p.from, p.words, e, want)
	}
	if m.Steps() != steps || !slices.Equal(seenIn(m), seen) {
		t.Errorf("(%d, %d): refused, and something was done", p.from, p.words)
	}
}

// P21.1, P21.2: places that are wrong.
func TestWrongPlaces(t *testing.T) {
	m := newMem(t, 256, func(at int) uint64 { return uint64(at) })
	made(t, m, place{0, 64})
	m.Store(100, 1) // seen alone
	for _, p := range []place{
		{-8, 64}, {-1, 64}, {-64, 128}, {math.MinInt, 64}, {math.MinInt, math.MinInt},
		{1, 64}, {4, 64}, {7, 64}, {9, 64}, {63, 64},
		{256, 64}, {264, 64}, {248, 64}, {1 << 20, 64}, {200, 64}, {200, 57},
		{0, 63}, {0, 8}, {0, 0}, {0, -1}, {0, -64}, {0, math.MinInt}, {256, 0}, {264, -8},
		{0, 257}, {8, 249}, {192, 65}, {0, 1 << 40}, {8, 1 << 62},
		{0, math.MaxInt}, {8, math.MaxInt}, {8, math.MaxInt - 7}, {math.MaxInt - 7, 64}, {math.MaxInt - 7, math.MaxInt}, {math.MaxInt, 64},
	} {
		refused(t, m, p, api.ErrJournalSize)
	}
}

// P21.1, P21.2: places that are right, up to the memory's end.
func TestRightPlaces(t *testing.T) {
	r := row(11)
	for _, p := range []place{{0, 64}, {0, 65}, {0, 71}, {0, 72}, {0, 255}, {0, 256}, {8, 247}, {8, 248}, {192, 64}, {184, 72}, {184, 71}, {104, 99}} {
		m := newMem(t, 256, zeros)
		made(t, m, p)
		m.Crash(0)
		opened(t, m, p, "")
		goesOn(t, m, p, &r)
	}
	m := newMem(t, 64, zeros)
	made(t, m, place{0, 64})
	refused(t, m, place{0, 65}, api.ErrJournalSize)
	refused(t, newMem(t, 56, zeros), place{0, 64}, api.ErrJournalSize)
	refused(t, newMem(t, 56, zeros), place{0, 56}, api.ErrJournalSize)
}

// R3, R6: a nil memory, whatever the place; R1: one that has no words.
func TestNoMemory(t *testing.T) {
	for _, p := range []place{{0, 64}, {-8, 64}, {0, 0}, {3, math.MaxInt}} {
		refused(t, nil, p, api.ErrNil)
		refused(t, new(pmem.Mem), p, api.ErrJournalSize)
	}
}

// R3: a nil journal; R1: one that neither New nor Open made.
func TestNoJournalAtAll(t *testing.T) {
	var none *journal.Journal
	for _, s := range []string{"", "a", string(make([]byte, api.MaxText+1))} {
		if e := none.Write(s); e != api.ErrNil {
			t.Errorf("Write: error %d", e)
		}
	}
	if none.Read() != "" {
		t.Errorf("read %q", none.Read())
	}
	zero := new(journal.Journal)
	if zero.Write("a") == api.OK || zero.Read() != "" {
		t.Error("a journal without a memory has a text")
	}
}

// P21.1: a Write that is refused has changed nothing, neither what is seen nor what lasts.
func TestRefusedWrite(t *testing.T) {
	r := row(12)
	for _, p := range []place{{0, 64}, {8, 67}, {0, 104}} {
		m := newMem(t, 104, zeros)
		j := made(t, m, p)
		for range 20 {
			s := r.text(r.below(p.room() + 1))
			write(t, j, s)
			seen, steps := seenIn(m), m.Steps()
			for _, size := range []int{p.room() + 1, p.room() + 2, 2 * p.room(), 8 * p.words, api.MaxText + 1} {
				if e := j.Write(r.text(size)); e != api.ErrJournalFull || j.Read() != s {
					t.Fatalf("error %d of %d bytes, and read %q", e, size, j.Read())
				}
			}
			if m.Steps() != steps || !slices.Equal(seenIn(m), seen) {
				t.Fatal("a refused Write has done something")
			}
			m.Crash(r.keep())
			opened(t, m, p, s)
		}
	}
}

// P21.1: a Write is refused without power too.
func TestRefusedWithoutPower(t *testing.T) {
	p := place{0, 64}
	m := newMem(t, 64, zeros)
	j := made(t, m, p)
	write(t, j, "had")
	m.Fuse(0)
	if e := j.Write(string(make([]byte, 65))); e != api.ErrJournalFull || j.Read() != "had" {
		t.Errorf("error %d, read %q", e, j.Read())
	}
	m.Crash(0)
	opened(t, m, p, "had")
}
