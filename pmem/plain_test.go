package pmem_test

import (
	"slices"
	"testing"

	"concourse/api"
	"concourse/pmem"
)

// plain is the chapter said once more, in the plainest way: two memories, of which
// one goes on when the power is gone (what is shown) and one stands still.
type plain struct {
	shown, seen, lasts []uint64
	way                map[int][]uint64
	fused              bool
	left               int
	steps, stores      int
}

func newPlain(lines int) *plain {
	n := lines * api.LineWords
	return &plain{shown: make([]uint64, n), seen: make([]uint64, n), lasts: make([]uint64, n), way: map[int][]uint64{}}
}

func (p *plain) power() bool { return !p.fused || p.left > 0 }

func (p *plain) burn() {
	p.steps++
	if p.power() {
		p.left--
	}
}

func (p *plain) store(at int, v uint64) {
	p.shown[at] = v
	if p.power() {
		p.seen[at] = v
	}
	p.stores++
	p.burn()
}

func (p *plain) flush(line int) {
	if p.power() {
		p.way[line] = slices.Clone(p.seen[line*8 : line*8+8])
	}
	p.burn()
}

func (p *plain) fence() {
	if p.power() {
		for line, words := range p.way {
			copy(p.lasts[line*8:], words)
		}
	}
	p.burn()
}

func (p *plain) fuse(steps int) {
	if p.power() {
		p.fused, p.left = true, steps
	}
}

func (p *plain) crash(keep int) {
	i := 0
	for line := 0; line < len(p.seen)/8; line++ {
		if !slices.Equal(p.seen[line*8:line*8+8], p.lasts[line*8:line*8+8]) {
			if keep >= 0 && keep&(1<<(i%60)) != 0 {
				copy(p.lasts[line*8:line*8+8], p.seen[line*8:line*8+8])
			}
			i++
		}
	}
	p.shown, p.seen = slices.Clone(p.lasts), slices.Clone(p.lasts)
	p.way, p.fused, p.left = map[int][]uint64{}, false, 0
}

// row is a row of numbers that is the same in each run.
type row uint64

func (r *row) below(n int) int {
	*r = *r*6364136223846793005 + 1442695040888963407
	return int(uint64(*r) >> 33 % uint64(n))
}

// oneStep does one thing, picked by r, to both memories.
func oneStep(r *row, m *pmem.Mem, p *plain, lines int) {
	switch pick := r.below(100); {
	case pick < 50:
		at, v := r.below(lines*8), uint64(r.below(3))
		m.Store(at, v)
		p.store(at, v)
	case pick < 75:
		line := r.below(lines)
		m.Flush(line)
		p.flush(line)
	case pick < 87:
		m.Fence()
		p.fence()
	case pick < 94:
		steps := r.below(30)
		m.Fuse(steps)
		p.fuse(steps)
	default:
		keep := r.below(1<<30)<<30 | r.below(1<<30)
		if r.below(5) == 0 {
			keep = -keep
		}
		m.Crash(keep)
		p.crash(keep)
	}
}

// P1.1, P1.2: long rows of calls answer what the plain memory answers, on copies too.
func TestAgainstPlain(t *testing.T) {
	for seed := range 60 {
		r := row(seed)
		lines := []int{1, 2, 5, 70}[seed%4]
		m, p := makeMem(t, lines), newPlain(lines)
		for step := range 1500 {
			oneStep(&r, m, p, lines)
			if r.below(20) == 0 {
				elder := m
				m = m.Copy()
				elder.Store(0, 77)
				elder.Crash(-1)
			}
			if got := allWords(m); !slices.Equal(got, p.shown) {
				t.Fatalf("row %d, step %d: %v, want %v", seed, step, got, p.shown)
			}
			if m.Steps() != p.steps || m.Stores() != p.stores {
				t.Fatalf("row %d, step %d: counts %d, %d, want %d, %d", seed, step, m.Steps(), m.Stores(), p.steps, p.stores)
			}
		}
	}
}

// allWords gives all words as they are seen.
func allWords(m *pmem.Mem) []uint64 {
	words := make([]uint64, m.Words())
	for at := range words {
		words[at], _ = m.Load(at)
	}
	return words
}

// The greatest memory: a fence costs by what is on its way, not by all the lines.
func TestGreatestMemoryEnds(t *testing.T) {
	lines := api.MaxWords / api.LineWords
	m := makeMem(t, lines)
	for line := range lines {
		wantOK(t, m.Store(line*8+7, uint64(line)), m.Flush(line))
	}
	for range 200000 {
		m.Fence()
	}
	wantOK(t, m.Crash(0))
	for line := range lines {
		wantWord(t, m, line*8+7, uint64(line))
	}
	wantCounts(t, m, 2*lines+200000, lines)
}
