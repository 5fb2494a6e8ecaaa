package journal_test

import (
	"bytes"
	"slices"
	"strings"
	"sync"
	"testing"
	"unsafe"

	"concourse/api"
	"concourse/journal"
	"concourse/pmem"
)

// P21.1: no word is touched but the journal's, neither as it is seen nor as it lasts, also where
// the journal ends within a line.
func TestOtherWordsStay(t *testing.T) {
	r := row(41)
	for words := 64; words <= 81; words++ {
		p := place{16, words}
		m := newMem(t, 112, func(at int) uint64 { return uint64(at) + 1000 })
		seen := seenIn(m)
		others := func(at int) bool { return at < p.from || at >= p.from+p.words }
		for at := range 112 {
			if others(at) { // seen, and not to last
				seen[at] = uint64(at) + 5000
				m.Store(at, seen[at])
			}
		}
		same := func(when string) {
			t.Helper()
			for at, v := range seenIn(m) {
				if others(at) && v != seen[at] {
					t.Fatalf("%d words, %s: word %d is %d, want %d", words, when, at, v, seen[at])
				}
			}
		}
		j := made(t, m, p)
		same("New")
		for range 6 {
			write(t, j, r.text(p.room()-r.below(3)))
			same("Write")
		}
		s := j.Read()
		opened(t, m, p, s)
		same("Open")
		for at := range 112 {
			seen[at] = uint64(at) + 1000
		}
		m.Crash(0)
		same("Crash: what was not fenced was let last")
		opened(t, m, p, s)
	}
}

// P21.1, P21.2: two journals on one memory do not know of one another, wherever the power goes.
func TestTwoOnOneMemory(t *testing.T) {
	r := row(42)
	for range 300 {
		one := place{8 * r.below(2), 64 + r.below(9)}
		two := place{(one.from + one.words + 7) / 8 * 8, 64 + r.below(9)}
		m := newMem(t, 176, func(int) uint64 { return r.word() })
		places := []place{one, two}
		js := []*journal.Journal{made(t, m, one), made(t, m, two)}
		texts := []string{"", ""}
		for range 20 {
			k := r.below(2)
			s := r.text(r.below(places[k].room() + 1))
			fused := r.below(3) == 0
			if fused {
				m.Fuse(r.below(14))
			}
			write(t, js[k], s)
			if js[1-k].Read() != texts[1-k] {
				t.Fatalf("the other has %q, want %q", js[1-k].Read(), texts[1-k])
			}
			found := []string{s}
			if fused {
				found = append(found, texts[k])
			}
			if fused || r.below(4) == 0 {
				m.Crash(r.keep())
			}
			js[k] = opened(t, m, places[k], found...)
			js[1-k] = opened(t, m, places[1-k], texts[1-k])
			texts[k] = js[k].Read()
		}
		made(t, m, one)
		opened(t, m, two, texts[1])
	}
}

// meet tells whether a text lies on bytes of another.
func meet(a, b string) bool {
	if a == "" || b == "" {
		return false
	}
	from, other := uintptr(unsafe.Pointer(unsafe.StringData(a))), uintptr(unsafe.Pointer(unsafe.StringData(b)))
	return from < other+uintptr(len(b)) && other < from+uintptr(len(a))
}

// R4: a text that is handed in is not changed and not kept.
func TestHandedIn(t *testing.T) {
	p := place{0, 64}
	m := newMem(t, 64, zeros)
	j := made(t, m, p)
	for _, size := range []int{1, 8, 13, 64} {
		memory := []byte("ahead" + strings.Repeat("x", size) + "behind")
		was := bytes.Clone(memory)
		s := unsafe.String(&memory[5], size)
		write(t, j, s)
		if !bytes.Equal(memory, was) {
			t.Fatal("what was handed in is changed")
		}
		if meet(j.Read(), s) {
			t.Error("the text that is told lies on the one that was handed in")
		}
		clear(memory)
		if want := strings.Repeat("x", size); j.Read() != want {
			t.Errorf("read %q, want %q", j.Read(), want)
		}
		m.Crash(0)
		j = opened(t, m, p, strings.Repeat("x", size))
	}
}

// R4: texts that are told share no memory, and stay as they are.
func TestToldStays(t *testing.T) {
	p := place{0, 64}
	m := newMem(t, 64, zeros)
	j := made(t, m, p)
	s := strings.Repeat("abc", 21)
	write(t, j, s)
	one, two, three := j.Read(), j.Read(), opened(t, m, p, s).Read()
	if meet(one, two) || meet(one, three) || meet(two, three) {
		t.Error("texts share memory")
	}
	clear(unsafe.Slice(unsafe.StringData(two), len(two)))
	write(t, j, strings.Repeat("z", 64), strings.Repeat("y", 64))
	if one != s || three != s {
		t.Errorf("told texts have changed: %q, %q", one, three)
	}
	m.Crash(0)
	opened(t, m, p, strings.Repeat("y", 64))
}

// R5: what is answered hangs on the memory alone: a copy answers the same, and stands alone.
func TestCopies(t *testing.T) {
	p := place{8, 66}
	m := newMem(t, 80, zeros)
	j := made(t, m, p)
	write(t, j, "one", "two")
	c := m.Copy()
	write(t, j, "three")
	o := opened(t, c, p, "two")
	write(t, o, "four")
	if j.Read() != "three" || o.Read() != "four" {
		t.Errorf("read %q, %q", j.Read(), o.Read())
	}
	again := newMem(t, 80, zeros)
	write(t, made(t, again, p), "one", "two", "three")
	if !slices.Equal(seenIn(again), seenIn(m)) {
		t.Error("the same calls have left other words")
	}
}

// R5: calls on unlike memories at one time.
func TestCallsAtOneTime(t *testing.T) {
	var group sync.WaitGroup
	for at := range 8 {
		group.Go(func() {
			r := row(100 + at)
			m, _ := pmem.New(128)
			j, e := journal.New(m, 0, 128)
			for range 200 {
				s := r.text(r.below(193))
				if e != api.OK || j.Write(s) != api.OK || j.Read() != s {
					t.Error("another answer")
					return
				}
				m.Crash(r.keep())
				j, e = journal.Open(m, 0, 128)
			}
		})
	}
	group.Wait()
}
