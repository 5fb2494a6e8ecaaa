package inum_test

import (
	"testing"

	"concourse/api"
)

// touches are the words that each core touched, gathered over calls.
type touches []map[int]int

func makeTouches(cores int) touches {
	s := make(touches, cores)
	for core := range s {
		s[core] = map[int]int{}
	}
	return s
}

// gather does a Next and takes its accesses: its core's alone, within the words that Nums have, with a writing if it
// gave a number and none else.
func (s touches) gather(b *book, core int) {
	b.t.Helper()
	full := b.given[core] == api.MaxMade
	clearTraces(b.a)
	b.next(core)
	wrote := false
	for other := range s {
		trace := b.a.Trace(other)
		if other != core && len(trace) > 0 {
			b.t.Fatalf("a Next of core %d touched %v as core %d", core, trace, other)
		}
		for _, access := range trace {
			if access.At < b.from || access.At >= b.from+len(b.given) {
				b.t.Fatalf("core %d touched word %d, outside", core, access.At)
			}
			s[core][access.At]++
			wrote = wrote || access.Write
		}
	}
	if wrote == full || len(s[core]) == 0 {
		b.t.Fatalf("core %d: full %v, wrote %v, touched %v", core, full, wrote, s[core])
	}
}

// wantApart fails if two cores touched one word.
func (s touches) wantApart(t *testing.T) {
	t.Helper()
	for core := range s {
		for other := range core {
			for at := range s[core] {
				if s[other][at] > 0 {
					t.Errorf("cores %d and %d touched word %d", other, core, at)
				}
			}
		}
	}
}

// P10.2: Nexts of unlike cores, from each core's first number to those that are refused, round and round.
func TestUnlikeCores(t *testing.T) {
	for cores := 1; cores <= api.MaxCores; cores++ {
		for _, ahead := range []int{0, 1, 13} {
			b := makeBook(t, cores, ahead, 5)
			s := makeTouches(cores)
			for range api.MaxMade + 3 {
				for core := range cores {
					s.gather(b, core)
				}
			}
			s.wantApart(t)
			b.close()
		}
	}
}

// P10.2: the same in any row.
func TestUnlikeCoresInAnyRow(t *testing.T) {
	for seed := range 30 {
		g := row(seed)
		cores := 2 + g.below(api.MaxCores-1)
		b := makeBook(t, cores, g.below(9), 3)
		s := makeTouches(cores)
		for range cores * api.MaxMade {
			s.gather(b, g.below(cores))
		}
		s.wantApart(t)
	}
}

// P10.2: Nexts of unlike cores of two Nums side by side touch unlike words too.
func TestSideBySideApart(t *testing.T) {
	const cores = 4
	one := makeBook(t, cores, 2, cores)
	two := bookAt(t, one.a, 2+cores)
	s := makeTouches(cores)
	for k := range 3 * cores {
		s.gather([]*book{one, two}[k%2], k%cores)
		s.gather([]*book{two, one}[k%2], k%cores)
	}
	s.wantApart(t)
}

// More than P10.2 asks, for the layers above: New lets no two cores meet either.
func TestNewLetsNobodyMeet(t *testing.T) {
	b := makeBook(t, 3, 1, 1)
	s := makeTouches(3)
	for core := range 3 {
		b.next(core)
		for _, access := range b.a.Trace(core) {
			s[core][access.At]++
		}
	}
	s.wantApart(t)
}

// Ways: counters are words of the arena: what the words held is what a core was given.
func TestCountersAreWords(t *testing.T) {
	g := row(8)
	b := makeBook(t, 5, 2, 2)
	for range 20 {
		words, given := allWords(b.a), append([]int(nil), b.given...)
		for range 40 {
			b.next(g.below(5))
		}
		for core, v := range words[b.from : b.from+5] {
			b.a.Store(core, b.from+core, v)
		}
		b.given = given
		for range 8 {
			b.next(g.below(5))
		}
	}
	b.fill()
	b.close()
}
