package journal_test

import (
	"strings"
	"testing"

	"concourse/api"
	"concourse/journal"
)

// P21.1, P21.2: texts by turns are read back, and found behind a Crash, whatever it keeps.
func TestTextsByTurns(t *testing.T) {
	r := row(1)
	for _, p := range []place{{0, 64}, {8, 64}, {16, 71}, {0, 100}, {24, 257}} {
		m := newMem(t, 304, func(at int) uint64 { return uint64(at) })
		j := made(t, m, p)
		if j.Read() != "" {
			t.Fatalf("a new journal has %q", j.Read())
		}
		opened(t, m, p, "")
		for range 300 {
			s := r.text(r.below(p.room() + 1))
			write(t, j, s)
			opened(t, m, p, s)
			switch r.below(6) {
			case 0:
				m.Crash(0)
			case 1:
				m.Crash(1<<60 - 1)
			case 2:
				m.Crash(r.keep())
			case 3:
				m.Crash(-1)
			default:
				continue
			}
			j = opened(t, m, p, s)
		}
	}
}

// P21.1, P21.2: texts of each length that there is room for, in sizes that end within a line too.
func TestEachLength(t *testing.T) {
	r := row(2)
	for words := 64; words <= 97; words++ {
		p := place{8, words}
		m := newMem(t, 112, zeros)
		j := made(t, m, p)
		for size := range p.room() + 1 {
			s := r.text(size)
			write(t, j, s)
			m.Crash(r.keep())
			j = opened(t, m, p, s)
		}
		if e := j.Write(r.text(p.room() + 1)); e != api.ErrJournalFull {
			t.Errorf("%d words: error %d of %d bytes", words, e, p.room()+1)
		}
	}
}

// P21.1, P21.2: texts that are short, alike, of one byte, of zeros at their ends.
func TestLikeTexts(t *testing.T) {
	p := place{0, 64}
	m := newMem(t, 64, zeros)
	j := made(t, m, p)
	texts := []string{"", "", "a", "a", "a\x00", "a", "\x00", "", "\x00\x00\x00\x00\x00\x00\x00\x00", "\x00",
		"eight..8", "eight..8\x00", "eight..8", "\xff", "日本語", strings.Repeat("\xff", 64), strings.Repeat("\x00", 64), ""}
	for _, s := range texts {
		write(t, j, s)
		m.Crash(0)
		j = opened(t, m, p, s)
		opened(t, m, p, s)
	}
}

// P21.1: New on a journal lets its text be "", whichever was ahead, and that lasts.
func TestNewAgain(t *testing.T) {
	r := row(3)
	p := place{8, 77}
	m := newMem(t, 88, zeros)
	for writes := range 40 {
		j := made(t, m, p)
		for range writes % 5 {
			write(t, j, r.text(r.below(p.room()+1)))
		}
		if again := made(t, m, p); again.Read() != "" {
			t.Fatalf("a new journal has %q", again.Read())
		}
		m.Crash(r.keep())
		opened(t, m, p, "")
	}
}

// P21.1: whatever lay there, New's text lasts when it is done, and so do later ones.
func TestNewOnAnything(t *testing.T) {
	r := row(4)
	for _, p := range []place{{0, 64}, {8, 64}, {0, 72}, {16, 95}} {
		for range 60 {
			m := newMem(t, 112, func(int) uint64 { return r.word() })
			for range r.below(20) { // seen, and not to last
				m.Store(r.below(112), r.word())
			}
			made(t, m, p)
			m.Crash(r.keep())
			opened(t, m, p, "")
			goesOn(t, m, p, &r)
		}
	}
}

// P21.1: texts of MaxText bytes in the greatest memory, and of one byte more.
func TestGreatestMemory(t *testing.T) {
	r := row(5)
	p := place{0, api.MaxWords}
	m := newMem(t, api.MaxWords, zeros)
	j := made(t, m, p)
	for _, size := range []int{api.MaxText, 0, api.MaxText - 1, api.MaxText} {
		s := r.text(size)
		write(t, j, s)
		m.Crash(r.keep())
		j = opened(t, m, p, s)
		if e := j.Write(r.text(api.MaxText + 1)); e != api.ErrJournalFull || j.Read() != s {
			t.Errorf("MaxText and one byte: error %d", e)
		}
	}
}

// P21.1: sizes at which a text of twice the words less 64 bytes is about MaxText.
func TestRoomAboutMaxText(t *testing.T) {
	r := row(6)
	for words := 32798; words <= 32803; words++ {
		p := place{16, words}
		m := newMem(t, 32824, zeros)
		j := made(t, m, p)
		for _, size := range []int{p.room(), p.room()} {
			s := r.text(size)
			write(t, j, s)
			if e := j.Write(s + "+"); e != api.ErrJournalFull {
				t.Errorf("%d words: error %d of %d bytes", words, e, size+1)
			}
			m.Crash(0)
			j = opened(t, m, p, s)
		}
	}
}

// R5: two journals at one place are one; what lies there is its text.
func TestOnePlaceOneText(t *testing.T) {
	p := place{0, 64}
	m := newMem(t, 64, zeros)
	one := made(t, m, p)
	write(t, one, "one")
	two := opened(t, m, p, "one")
	write(t, two, "two")
	write(t, two, "three")
	if got := one.Read(); got != "three" {
		t.Errorf("read %q", got)
	}
	write(t, one, "four")
	m.Crash(0)
	opened(t, m, p, "four")
	write(t, two, "five") // behind the crash, not opened again
	m.Crash(0)
	opened(t, m, p, "five")
}

// P21.2: of memory that no journal was made on there is none.
func TestNoJournal(t *testing.T) {
	r := row(7)
	for _, word := range []func(int) uint64{
		zeros,
		func(int) uint64 { return 1<<64 - 1 },
		func(int) uint64 { return 0xaaaa },
		func(at int) uint64 { return uint64(at) },
		func(int) uint64 { return uint64(r.below(3)) },
		func(int) uint64 { return r.word() },
	} {
		m := newMem(t, 256, word)
		for _, p := range []place{{0, 64}, {8, 64}, {8, 100}, {0, 256}, {192, 64}} {
			if got := ask(t, m, p); got.e != api.ErrJournalForm {
				t.Errorf("%v: found %q", p, got.text)
			}
		}
	}
	m := newMem(t, 256, zeros)
	write(t, made(t, m, place{64, 64}), "there")
	for _, p := range []place{{0, 64}, {128, 64}, {72, 64}, {56, 64}} {
		if _, e := journal.Open(m, p.from, p.words); e != api.ErrJournalForm {
			t.Errorf("%v: error %d", p, e)
		}
	}
}
