package journal_test

import (
	"slices"
	"testing"

	"concourse/api"
	"concourse/journal"
	"concourse/pmem"
)

// row is a row of numbers that is the same in each run.
type row uint64

func (r *row) below(n int) int {
	*r = *r*6364136223846793005 + 1442695040888963407
	return int(uint64(*r) >> 33 % uint64(n))
}

// word is any word of 64 bits.
func (r *row) word() uint64 {
	return uint64(r.below(1<<22))<<44 ^ uint64(r.below(1<<22))<<22 ^ uint64(r.below(1<<22))
}

// keep is what a Crash may keep: any bits, or none.
func (r *row) keep() int {
	return r.below(1<<30)<<30 + r.below(1<<30) - r.below(2)<<60
}

// text is a text of so many bytes, any bytes.
func (r *row) text(size int) string {
	b := make([]byte, size)
	for at := range b {
		b[at] = byte(r.below(256))
	}
	return string(b)
}

// place is where a journal lies: from which word on, and how many.
type place struct {
	from, words int
}

// room is how many bytes a text may have there.
func (p place) room() int {
	return min(2*p.words-64, 65536)
}

// newMem gives a memory in which all words last as word says.
func newMem(t *testing.T, words int, word func(at int) uint64) *pmem.Mem {
	t.Helper()
	m, e := pmem.New(words)
	if e != api.OK {
		t.Fatalf("no memory of %d words: error %d", words, e)
	}
	for at := range words {
		store(m, at, word(at))
	}
	return m
}

func zeros(int) uint64 { return 0 }

// store lets a word last, and sends nothing else on its way.
func store(m *pmem.Mem, at int, v uint64) {
	m.Store(at, v)
	m.Flush(at / api.LineWords)
	m.Fence()
}

// seenIn gives all words as they are seen.
func seenIn(m *pmem.Mem) []uint64 {
	words := make([]uint64, m.Words())
	for at := range words {
		words[at], _ = m.Load(at)
	}
	return words
}

// made gives a new journal.
func made(t *testing.T, m *pmem.Mem, p place) *journal.Journal {
	t.Helper()
	j, e := journal.New(m, p.from, p.words)
	if e != api.OK || j == nil {
		t.Fatalf("New(%d, %d): error %d", p.from, p.words, e)
	}
	return j
}

// write writes texts, which must be OK and read back.
func write(t *testing.T, j *journal.Journal, texts ...string) {
	t.Helper()
	for _, s := range texts {
		if e := j.Write(s); e != api.OK {
			t.Fatalf("Write of %d bytes: error %d", len(s), e)
		}
		if got := j.Read(); got != s {
			t.Fatalf("read %q, want %q", got, s)
		}
	}
}

// opened opens the journal that must lie there, with one of the texts.
func opened(t *testing.T, m *pmem.Mem, p place, texts ...string) *journal.Journal {
	t.Helper()
	j, e := journal.Open(m, p.from, p.words)
	if e != api.OK || j == nil {
		t.Fatalf("Open(%d, %d): error %d", p.from, p.words, e)
	}
	if got := j.Read(); !slices.Contains(texts, got) {
		t.Fatalf("Open(%d, %d): read %q, want one of %q", p.from, p.words, got, texts)
	}
	return j
}

// answer is what Open finds.
type answer struct {
	e    api.Errno
	text string
}

// ask opens what lies there and tells what it found. Beside an error there must be
// no journal, and nothing is done to the memory.
func ask(t *testing.T, m *pmem.Mem, p place) answer {
	t.Helper()
	seen, steps, stores := seenIn(m), m.Steps(), m.Stores()
	j, e := journal.Open(m, p.from, p.words)
	if e == api.OK {
		if len(j.Read()) > p.room() {
			t.Fatalf("a text of %d bytes, with room for %d", len(j.Read()), p.room())
		}
		return answer{text: j.Read()}
	}
	if e != api.ErrJournalForm || j != nil {
		t.Fatalf("Open(%d, %d): error %d, %v", p.from, p.words, e, j)
	}
	if m.Steps() != steps || m.Stores() != stores || !slices.Equal(seenIn(m), seen) {
		t.Fatal("Open did something beside an error")
	}
	return answer{e: e}
}

// goesOn wants that a Write behind an Open that is OK lasts, and the next one too.
func goesOn(t *testing.T, m *pmem.Mem, p place, r *row) {
	t.Helper()
	for range 2 {
		j, e := journal.Open(m, p.from, p.words)
		if e != api.OK {
			t.Fatalf("Open: error %d", e)
		}
		s := r.text(r.below(p.room() + 1))
		write(t, j, s)
		m.Crash(r.keep())
		opened(t, m, p, s)
	}
}
