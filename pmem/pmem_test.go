package pmem_test

import (
	"math"
	"testing"

	"concourse/api"
	"concourse/pmem"
)

// makeMem gives a memory of so many lines.
func makeMem(t *testing.T, lines int) *pmem.Mem {
	t.Helper()
	m, e := pmem.New(lines * api.LineWords)
	if e != api.OK || m == nil {
		t.Fatalf("New(%d lines): %d", lines, e)
	}
	return m
}

// wantWord fails if a word is not seen as it should be.
func wantWord(t *testing.T, m *pmem.Mem, at int, want uint64) {
	t.Helper()
	if got, e := m.Load(at); e != api.OK || got != want {
		t.Errorf("word %d: %d (error %d), want %d", at, got, e, want)
	}
}

// wantOK fails if one of the answers is an error.
func wantOK(t *testing.T, answers ...api.Errno) {
	t.Helper()
	for i, e := range answers {
		if e != api.OK {
			t.Errorf("answer %d: error %d", i, e)
		}
	}
}

// wantCounts fails if the counts are not these.
func wantCounts(t *testing.T, m *pmem.Mem, steps, stores int) {
	t.Helper()
	if m.Steps() != steps || m.Stores() != stores {
		t.Errorf("%d steps, %d stores, want %d, %d", m.Steps(), m.Stores(), steps, stores)
	}
}

// P1.1: sizes.
func TestNewSizes(t *testing.T) {
	for _, words := range []int{8, 16, 24, 4096, api.MaxWords - 8, api.MaxWords} {
		m, e := pmem.New(words)
		if e != api.OK || m.Words() != words {
			t.Errorf("New(%d): error %d, %d words", words, e, m.Words())
			continue
		}
		wantCounts(t, m, 0, 0)
		for at := range words {
			wantWord(t, m, at, 0)
		}
	}
	for _, words := range []int{math.MinInt, -api.MaxWords, -8, -1, 0, 1, 4, 7, 9, 12, 15, 17, api.MaxWords - 1, api.MaxWords + 1, api.MaxWords + 8, math.MaxInt - 7, math.MaxInt} {
		if m, e := pmem.New(words); e != api.ErrPmemSize || m != nil {
			t.Errorf("New(%d): error %d", words, e)
		}
	}
}

// P1.1: the first and the last word and line, and those beside them.
func TestPlaces(t *testing.T) {
	for _, lines := range []int{1, 2, api.MaxWords / api.LineWords} {
		m := makeMem(t, lines)
		last := m.Words() - 1
		wantOK(t, m.Store(0, 5), m.Store(last, math.MaxUint64), m.Flush(0), m.Flush(lines-1))
		wantCounts(t, m, 4, 2)
		for _, at := range []int{-1, last + 1, math.MinInt, math.MaxInt} {
			if v, e := m.Load(at); e != api.ErrPmemPlace || v != 0 {
				t.Errorf("%d lines: Load(%d): %d, error %d", lines, at, v, e)
			}
			if e := m.Store(at, 7); e != api.ErrPmemPlace {
				t.Errorf("%d lines: Store(%d): error %d", lines, at, e)
			}
		}
		for _, line := range []int{-1, lines, math.MinInt, math.MaxInt} {
			if e := m.Flush(line); e != api.ErrPmemPlace {
				t.Errorf("%d lines: Flush(%d): error %d", lines, line, e)
			}
		}
		wantCounts(t, m, 4, 2)
		wantOK(t, m.Fence(), m.Crash(0))
		wantWord(t, m, 0, 5)
		wantWord(t, m, last, math.MaxUint64)
	}
}

// P1.1: what lasts is what was flushed and then fenced, by whole lines.
func TestFlushAndFence(t *testing.T) {
	const v = 9
	rows := []struct {
		what string
		do   func(m *pmem.Mem)
		want [3]uint64 // words 0, 1 and 8 behind a crash
	}{
		{"stored alone", func(m *pmem.Mem) { m.Store(0, v) }, [3]uint64{}},
		{"no fence", func(m *pmem.Mem) { m.Store(0, v); m.Flush(0) }, [3]uint64{}},
		{"no flush", func(m *pmem.Mem) { m.Store(0, v); m.Fence() }, [3]uint64{}},
		{"fence ahead of flush", func(m *pmem.Mem) { m.Store(0, v); m.Fence(); m.Flush(0) }, [3]uint64{}},
		{"both", func(m *pmem.Mem) { m.Store(0, v); m.Flush(0); m.Fence() }, [3]uint64{v, 0, 0}},
		{"a whole line", func(m *pmem.Mem) { m.Store(0, v); m.Store(1, v); m.Flush(0); m.Fence() }, [3]uint64{v, v, 0}},
		{"another line", func(m *pmem.Mem) { m.Store(0, v); m.Store(8, v); m.Flush(0); m.Fence() }, [3]uint64{v, 0, 0}},
		{"two lines", func(m *pmem.Mem) { m.Store(0, v); m.Store(8, v); m.Flush(1); m.Flush(0); m.Fence() }, [3]uint64{v, 0, v}},
		{"stored again", func(m *pmem.Mem) { m.Store(0, v); m.Flush(0); m.Store(0, 1); m.Store(1, 2); m.Fence() }, [3]uint64{v, 0, 0}},
		{"stored again, fenced twice", func(m *pmem.Mem) { m.Store(0, v); m.Flush(0); m.Store(0, 1); m.Fence(); m.Fence() }, [3]uint64{v, 0, 0}},
		{"stored again behind the fence", func(m *pmem.Mem) { m.Store(0, v); m.Flush(0); m.Fence(); m.Store(0, 1); m.Fence() }, [3]uint64{v, 0, 0}},
		{"flushed again", func(m *pmem.Mem) { m.Store(0, v); m.Flush(0); m.Store(1, 2); m.Flush(0); m.Fence() }, [3]uint64{v, 2, 0}},
		{"flushed and stored twice", func(m *pmem.Mem) {
			m.Store(0, v)
			m.Flush(0)
			m.Store(0, 1)
			m.Flush(0)
			m.Store(0, 2)
			m.Fence()
		}, [3]uint64{1, 0, 0}},
	}
	for _, row := range rows {
		m := makeMem(t, 2)
		row.do(m)
		m.Crash(0)
		for i, at := range []int{0, 1, 8} {
			if got, _ := m.Load(at); got != row.want[i] {
				t.Errorf("%s: word %d: %d, want %d", row.what, at, got, row.want[i])
			}
		}
	}
}

// P1.1, P1.2: what is seen does not hang on what lasts.
func TestSeenBeforeItLasts(t *testing.T) {
	m := makeMem(t, 1)
	wantOK(t, m.Store(3, 1))
	wantWord(t, m, 3, 1)
	wantOK(t, m.Flush(0), m.Store(3, 2))
	wantWord(t, m, 3, 2)
	wantOK(t, m.Fence())
	wantWord(t, m, 3, 2)
	wantOK(t, m.Crash(0))
	wantWord(t, m, 3, 1)
}

// threeLines gives a memory whose lines 0, 2 and 3 are seen otherwise than they last, and whose line 1 is not.
func threeLines(t *testing.T) *pmem.Mem {
	m := makeMem(t, 4)
	wantOK(t,
		m.Store(8, 1), m.Store(16, 1), m.Flush(1), m.Flush(2), m.Fence(),
		m.Store(31, 4), m.Store(16, 3), m.Store(0, 2), m.Flush(0), // not in rising order
		m.Store(9, 7), m.Flush(1), m.Store(9, 0)) // line 1 is back at what lasts
	return m
}

// P1.2: Crash keeps the lines that differ by the bits, rising.
func TestCrashKeeps(t *testing.T) {
	for keep := range 8 {
		m := threeLines(t)
		wantOK(t, m.Crash(keep))
		want := [4]uint64{0, 1, 1, 0}
		for i, to := range [][2]uint64{{0, 2}, {2, 3}, {3, 4}} {
			if keep>>i&1 == 1 {
				want[to[0]] = to[1]
			}
		}
		for line, at := range []int{0, 8, 16, 31} {
			wantWord(t, m, at, want[line])
		}
		wantWord(t, m, 9, 0)
		// nothing is on its way, and what is seen is what lasts
		wantOK(t, m.Fence(), m.Crash(math.MaxInt))
		for line, at := range []int{0, 8, 16, 31} {
			wantWord(t, m, at, want[line])
		}
		wantCounts(t, m, 13, 7)
	}
}

// P1.2: a keep below 0 keeps nothing; bits from 60 on say nothing.
func TestCrashKeepEdges(t *testing.T) {
	for _, keep := range []int{-1, -2, -8, math.MinInt, math.MinInt + 7, 8, 1 << 59, 1 << 60, 1 << 61, 1 << 62} {
		m := threeLines(t)
		wantOK(t, m.Crash(keep))
		for line, at := range []int{0, 8, 16, 31} {
			wantWord(t, m, at, [4]uint64{0, 1, 1, 0}[line])
		}
	}
}

// P1.2: behind 60 lines that differ the bits come round; a line that does not differ takes no bit.
func TestCrashManyLines(t *testing.T) {
	const lines = 200
	for _, keep := range []int{0, 1, 2, 1 << 59, 1<<59 | 1, 1<<60 | 2, 0x5a5a5a5a5a5a5a5, math.MaxInt, -1} {
		m := makeMem(t, lines)
		for line := lines - 1; line >= 0; line-- {
			if line%3 != 0 {
				wantOK(t, m.Store(line*8+line%8, 1))
			}
		}
		wantOK(t, m.Crash(keep))
		unlike := 0
		for line := range lines {
			want := uint64(0)
			if line%3 != 0 {
				if keep >= 0 && keep>>(unlike%60)&1 == 1 {
					want = 1
				}
				unlike++
			}
			wantWord(t, m, line*8+line%8, want)
		}
	}
}

// P1.2: of a line that was flushed and stored to again a crash keeps what is seen, not what was on its way.
func TestCrashFlushedLine(t *testing.T) {
	for keep, want := range []uint64{0, 2} {
		m := makeMem(t, 1)
		wantOK(t, m.Store(0, 1), m.Flush(0), m.Store(0, 2), m.Crash(keep))
		wantWord(t, m, 0, want)
		wantOK(t, m.Fence(), m.Crash(0))
		wantWord(t, m, 0, want)
	}
}
