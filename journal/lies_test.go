package journal_test

import (
	"slices"
	"testing"

	"concourse/api"
	"concourse/pmem"
)

// anything wants of whatever lies there that Open refuses it, or that it has a text that there is
// room for, and that a Write behind that lasts.
func anything(t *testing.T, m *pmem.Mem, p place, r *row) answer {
	t.Helper()
	got := ask(t, m, p)
	if got.e == api.OK {
		goesOn(t, m.Copy(), p, r)
	}
	return got
}

// P21.2: words that are drawn, small ones and great ones, seen alone or lasting.
func TestDrawnWords(t *testing.T) {
	r := row(31)
	for range 400 {
		m := newMem(t, 128, func(int) uint64 { return 0 })
		limit := []int{2, 100, 1 << 30}[r.below(3)]
		for at := range 128 {
			m.Store(at, uint64(r.below(limit))<<(r.below(3)*17))
		}
		if r.below(2) == 0 {
			m.Crash(1<<60 - 1)
		}
		for _, p := range []place{{0, 64}, {8, 72}, {0, 128}, {64, 64}} {
			anything(t, m, p, &r)
		}
	}
}

// P21.2: a journal's words with one of them turned, in each place and in many ways. What is found
// then is one of the texts that were written: a turned one is not told.
func TestOneWordTurned(t *testing.T) {
	r := row(32)
	for _, p := range []place{{8, 64}, {0, 85}} {
		for writes := range 4 {
			m := newMem(t, 96, zeros)
			texts := []string{""}
			j := made(t, m, p)
			for range writes {
				texts = append(texts, r.text(p.room()))
				write(t, j, last(texts))
			}
			for at := range p.words {
				was, _ := m.Load(p.from + at)
				for _, v := range []uint64{0, 1, was + 1, was - 1, ^was, was ^ 1<<63, was ^ 1<<r.below(64), was << 8, r.word(),
					uint64(p.room()), uint64(p.room()) + 1, 8 * uint64(p.words), 1 << 16, 1 << 31, 1 << 32, 1<<63 - 1, 1 << 63, 1<<64 - 8, 1<<64 - 1} {
					c := m.Copy()
					if r.below(2) == 0 {
						c.Store(p.from+at, v)
					} else {
						store(c, p.from+at, v)
					}
					if got := anything(t, c, p, &r); !slices.Contains(texts, got.text) {
						t.Fatalf("word %d is %x: found %q, which nobody wrote", at, v, got.text)
					}
				}
			}
		}
	}
}

// P21.2: a journal's words with several of them turned.
func TestSeveralWordsTurned(t *testing.T) {
	r := row(33)
	for range 1500 {
		p := place{8 * r.below(3), 64 + r.below(20)}
		m := newMem(t, 104, zeros)
		j := made(t, m, p)
		for range r.below(4) {
			write(t, j, r.text(r.below(p.room()+1)))
		}
		for range 1 + r.below(6) {
			at := p.from + r.below(p.words)
			was, _ := m.Load(at)
			m.Store(at, []uint64{uint64(r.below(200)), was + uint64(r.below(9)), was ^ 1<<r.below(64), r.word()}[r.below(4)])
		}
		anything(t, m, p, &r)
	}
}

// P21.2: lines of two journals put together in every way, of one size and of two. A journal that
// was greater has texts that there is no room for in the smaller one.
func TestLinesOfTwo(t *testing.T) {
	r := row(34)
	p := place{0, 64}
	for _, other := range []place{{0, 64}, {0, 67}, {0, 71}} {
		for writes := range 9 {
			var kinds [2][]uint64
			for kind, q := range []place{p, other} {
				m := newMem(t, 72, zeros)
				j := made(t, m, q)
				for range []int{writes % 3, writes / 3}[kind] {
					write(t, j, r.text(q.room()))
				}
				kinds[kind] = seenIn(m)
			}
			for mix := range 1 << 8 {
				m := newMem(t, 72, zeros)
				for at := range 64 {
					m.Store(at, kinds[mix>>(at/8)&1][at])
				}
				m.Crash(1<<60 - 1)
				anything(t, m, p, &r)
				anything(t, m, place{0, 71}, &r)
			}
		}
	}
}

// P21.2: a text that stands whole in its area, but is longer than there is room for: the head of a
// smaller journal ahead of the areas of a greater one, whose lines lie at the same places.
func TestNoRoomForText(t *testing.T) {
	r := row(38)
	small, great := place{0, 64}, place{0, 71}
	for size := range great.room() + 1 {
		s := r.text(size)
		for writes := range 3 {
			head, areas := newMem(t, 72, zeros), newMem(t, 72, zeros)
			j, k := made(t, head, small), made(t, areas, great)
			for range writes {
				write(t, j, "short")
			}
			for range 2 {
				write(t, k, s)
			}
			for at := 8; at < 64; at++ {
				v, _ := areas.Load(at)
				store(head, at, v)
			}
			if got := anything(t, head, small, &r); got.text != "" && (got.text != s || size > small.room()) {
				t.Errorf("%d bytes: found %d", size, len(got.text))
			}
		}
	}
}

// P21.2: words of two journals put together at drawn places.
func TestWordsOfTwo(t *testing.T) {
	r := row(35)
	for range 600 {
		p := place{0, 64 + r.below(8)}
		one, two := newMem(t, 72, zeros), newMem(t, 72, zeros)
		for _, m := range []*pmem.Mem{one, two} {
			j := made(t, m, p)
			for range r.below(4) {
				write(t, j, r.text(r.below(p.room()+1)))
			}
		}
		for range r.below(24) {
			at := r.below(72)
			v, _ := two.Load(at)
			one.Store(at, v)
		}
		anything(t, one, p, &r)
	}
}

// P21.2: a journal of another size at the same place, also one whose words reach to where this
// one's end.
func TestOtherSize(t *testing.T) {
	r := row(36)
	for words := 64; words <= 96; words++ {
		for other := 64; other <= 96; other++ {
			m := newMem(t, 96, zeros)
			j := made(t, m, place{0, other})
			for range r.below(4) {
				write(t, j, r.text(2*other-64-r.below(8)))
			}
			got := anything(t, m, place{0, words}, &r)
			if words == other && got.e != api.OK {
				t.Errorf("%d words: error %d", words, got.e)
			}
			opened(t, m, place{0, other}, j.Read())
		}
	}
}

// P21.1, P21.2: whatever comes over a journal, its next Write lasts, and Read tells no more than
// there is room for.
func TestWriteOnAnything(t *testing.T) {
	r := row(37)
	p := place{8, 70}
	for range 400 {
		m := newMem(t, 80, zeros)
		j := made(t, m, p)
		write(t, j, r.text(r.below(p.room()+1)))
		for range r.below(80) {
			m.Store(8+r.below(70), []uint64{0, uint64(r.below(300)), r.word()}[r.below(3)])
		}
		if len(j.Read()) > p.room() {
			t.Fatalf("read %d bytes", len(j.Read()))
		}
		s := r.text(r.below(p.room() + 1))
		write(t, j, s)
		m.Crash(r.keep())
		opened(t, m, p, s)
	}
}
