package journal_test

import (
	"testing"

	"concourse/api"
	"concourse/journal"
	"concourse/pmem"
)

// keepsOf gives all ways to keep some of so many lines, or drawn ones where they are too many.
func keepsOf(lines int, r *row) []int {
	var keeps []int
	if lines <= 4 {
		for keep := range 1 << lines {
			keeps = append(keeps, keep)
		}
		return keeps
	}
	keeps = []int{0, -1, 1<<60 - 1}
	for range 12 {
		keeps = append(keeps, r.keep())
	}
	return keeps
}

// written gives a memory with a journal on which texts were written, one behind the other.
func written(t *testing.T, p place, texts []string) (*pmem.Mem, *journal.Journal) {
	t.Helper()
	m := newMem(t, p.from+(p.words+7)/8*8, zeros)
	j := made(t, m, p)
	write(t, j, texts...)
	return m, j
}

// stepsOf counts the steps that work takes on a copy of m.
func stepsOf(m *pmem.Mem, work func(m *pmem.Mem)) int {
	c := m.Copy()
	work(c)
	return c.Steps() - m.Steps()
}

// last gives the last one of texts, or none behind New.
func last(texts []string) string {
	if len(texts) == 0 {
		return ""
	}
	return texts[len(texts)-1]
}

// cutWrite lets the power go at each step of a Write behind texts, in each way; lines is how
// many lines the Write may have under way. Behind each, what is found goes on.
func cutWrite(t *testing.T, p place, texts []string, next string, lines int, behindOpen bool, r *row) {
	t.Helper()
	whole, j := written(t, p, texts)
	had := last(texts)
	before := whole.Steps()
	write(t, j, next)
	steps := whole.Steps() - before
	for fuse := range steps + 2 {
		for _, keep := range keepsOf(lines, r) {
			m, j := written(t, p, texts)
			if behindOpen {
				j = opened(t, m, p, had)
			}
			m.Fuse(fuse)
			write(t, j, next)
			m.Crash(keep)
			found := []string{had, next}
			if fuse >= steps { // it had ended
				found = found[1:]
			}
			if fuse == 0 {
				found = found[:1]
			}
			opened(t, m, p, found...)
			goesOn(t, m, p, r)
		}
	}
}

// P21.2: the power goes at each single step of a Write, behind Writes of unlike lengths, with
// each way in which a Crash keeps what was not fenced.
func TestPowerWithinWrite(t *testing.T) {
	r := row(21)
	p := place{0, 64}
	sizes := []int{0, 1, 8, 30, 47, 48, 49, 64}
	for _, behindOpen := range []bool{false, true} {
		for _, next := range sizes {
			cutWrite(t, p, nil, r.text(next), 4, behindOpen, &r)
			for at, size := range sizes {
				texts := []string{r.text(64), r.text(sizes[7-at]), r.text(size)}
				cutWrite(t, p, texts[r.below(3):], r.text(next), 4, behindOpen, &r)
			}
		}
	}
}

// P21.2: likewise of longer texts at other places, with keeps that are drawn.
func TestPowerWithinLongWrite(t *testing.T) {
	r := row(22)
	for _, p := range []place{{8, 71}, {16, 101}, {0, 160}} {
		for range 6 {
			var texts []string
			for range r.below(4) {
				texts = append(texts, r.text(r.below(p.room()+1)))
			}
			cutWrite(t, p, texts, r.text(p.room()-r.below(p.room())), 60, r.below(2) == 0, &r)
		}
	}
}

// P21.2: texts that differ in one byte, or are each other's beginnings, are not mixed up.
func TestPowerWithinLikeWrites(t *testing.T) {
	r := row(23)
	p := place{0, 64}
	for _, texts := range [][]string{
		{"aaaaaaaaaaaaaaaa", "aaaaaaaabaaaaaaa", "aaaaaaaacaaaaaaa"},
		{"one text here", "one text here and more of it", "one text"},
		{"\x00\x00\x00", "\x00\x00\x00\x00", "\x00"},
		{"same", "same", "same"},
		{"", "x", ""},
	} {
		cutWrite(t, p, texts[:2], texts[2], 4, false, &r)
	}
}

// P21.2: the power goes twice, within one Write and within the next one behind it.
func TestPowerTwice(t *testing.T) {
	r := row(24)
	p := place{0, 64}
	for range 1500 {
		texts := []string{r.text(r.below(65)), r.text(r.below(65))}
		m, j := written(t, p, texts)
		allowed := texts[1:]
		for range 2 + r.below(2) {
			next := r.text(r.below(65))
			m.Fuse(r.below(16))
			write(t, j, next)
			m.Crash(r.keep())
			j = opened(t, m, p, append(allowed, next)...)
			allowed = []string{j.Read()}
		}
		goesOn(t, m, p, &r)
	}
}

// P21.2: each step of the first Write, and behind it each step of the second one.
func TestPowerTwiceAtEachStep(t *testing.T) {
	r := row(25)
	p := place{0, 64}
	for first := range 12 {
		for second := range 12 {
			for keep := range 8 {
				m, j := written(t, p, []string{"elder", "had"})
				m.Fuse(first)
				write(t, j, "first, and so on")
				m.Crash(keep)
				j = opened(t, m, p, "had", "first, and so on")
				had := j.Read()
				m.Fuse(second)
				write(t, j, "second")
				m.Crash(r.below(8))
				opened(t, m, p, had, "second")
			}
		}
	}
}

// P21.2: Writes behind the fuse's end are OK and are read back till the Crash; then the text is
// that of the last one that had ended with power, or of the one in which it went.
func TestWithoutPower(t *testing.T) {
	r := row(26)
	p := place{8, 80}
	for fuse := range 60 {
		for range 12 {
			m, j := written(t, p, []string{"elder", "had"})
			powerEnds := m.Steps() + fuse
			m.Fuse(fuse)
			allowed := []string{"had"}
			for range 5 {
				s := r.text(r.below(p.room() + 1))
				hasPower := m.Steps() < powerEnds
				write(t, j, s)
				switch {
				case m.Steps() <= powerEnds:
					allowed = []string{s}
				case hasPower:
					allowed = append(allowed, s)
				}
				j = opened(t, m, p, s)
			}
			m.Crash(r.keep())
			opened(t, m, p, allowed...)
			goesOn(t, m, p, &r)
		}
	}
}

// aheads gives memories with unlike things at a place: nothing, anything, a journal of one or
// of another size, a journal with a word turned.
func aheads(t *testing.T, p place, r *row) []*pmem.Mem {
	t.Helper()
	size := p.from + (p.words+7)/8*8 + 64
	all := []*pmem.Mem{newMem(t, size, zeros), newMem(t, size, func(int) uint64 { return r.word() })}
	for writes := range 4 {
		for _, more := range []int{0, 1, 8, 64} {
			m := newMem(t, size, zeros)
			other := place{p.from, p.words + more}
			j := made(t, m, other)
			for range writes {
				write(t, j, r.text(r.below(other.room()+1)))
			}
			all = append(all, m)
		}
	}
	for at := range p.words {
		m := newMem(t, size, zeros)
		write(t, made(t, m, p), r.text(p.room()), r.text(p.room()), r.text(p.room()))
		was, _ := m.Load(p.from + at)
		store(m, p.from+at, []uint64{0, was + 1, was ^ 1<<63, r.word()}[r.below(4)])
		all = append(all, m)
	}
	return all
}

// P21.2: the power goes at each single step of New: there is no journal, one with "", or what
// lay there ahead; behind New's end "" is there.
func TestPowerWithinNew(t *testing.T) {
	r := row(27)
	p := place{8, 64}
	for _, m := range aheads(t, p, &r) {
		had := ask(t, m, p)
		steps := stepsOf(m, func(c *pmem.Mem) { made(t, c, p) })
		for fuse := range steps + 2 {
			for _, keep := range keepsOf(4, &r) {
				c := m.Copy()
				c.Fuse(fuse)
				if j := made(t, c, p); j.Read() != "" {
					t.Fatalf("a new journal has %q", j.Read())
				}
				c.Crash(keep)
				got := ask(t, c, p)
				if got != had && got != (answer{}) && (got.e != api.ErrJournalForm || fuse >= steps) {
					t.Fatalf("fuse %d of %d, keep %d: found %v, ahead of it %v", fuse, steps, keep, got, had)
				}
				if fuse >= steps && got != (answer{}) {
					t.Fatalf("New had ended: found %v", got)
				}
				made(t, c, p)
				goesOn(t, c, p, &r)
			}
		}
	}
}

// P21.2: a journal of another size that lay where the power went within New is there as it was,
// or it is not.
func TestPowerWithinNewOnOther(t *testing.T) {
	r := row(28)
	small, great := place{0, 64}, place{0, 160}
	for writes := range 4 {
		for _, p := range [][2]place{{small, great}, {great, small}} {
			m := newMem(t, 160, zeros)
			j := made(t, m, p[0])
			for range writes {
				write(t, j, r.text(p[0].room()))
			}
			had := ask(t, m, p[0])
			for fuse := range 12 {
				for keep := range 16 {
					c := m.Copy()
					c.Fuse(fuse)
					made(t, c, p[1])
					c.Crash(keep)
					if got := ask(t, c, p[0]); got != had && got != (answer{}) && got.e != api.ErrJournalForm {
						t.Fatalf("fuse %d, keep %d: found %v, ahead of it %v", fuse, keep, got, had)
					}
					ask(t, c, p[1])
				}
			}
		}
	}
}

// P21.2: the greatest texts in the greatest memory, with the power gone here and there.
func TestPowerInGreatestMemory(t *testing.T) {
	r := row(29)
	p := place{0, api.MaxWords}
	m := newMem(t, api.MaxWords, zeros)
	had, next := r.text(api.MaxText), r.text(api.MaxText)
	write(t, made(t, m, p), had)
	steps := stepsOf(m, func(c *pmem.Mem) { write(t, opened(t, c, p, had), next) })
	for _, fuse := range []int{1, steps / 3, steps - 1100, steps - 500, steps - 6, steps - 5, steps - 4, steps - 3, steps - 2, steps - 1, steps} {
		c := m.Copy()
		j := opened(t, c, p, had)
		c.Fuse(fuse)
		write(t, j, next)
		c.Crash(r.keep())
		opened(t, c, p, had, next)
	}
}
