package fds_test

import (
	"testing"

	"concourse/api"
)

// touches are the words that each core touched, gathered over calls.
type touches []map[int]int

func makeTouches(cores int) touches {
	s := make(touches, cores)
	for core := range s {
		s[core] = map[int]int{}
	}
	return s
}

// gather does a call of a core and takes its accesses: its core's alone, within the words that the Fds have, and with a
// writing just if the call is to write.
func (s touches) gather(b *book, core int, writes bool, call func()) {
	b.t.Helper()
	clearTraces(b.a)
	call()
	wrote := false
	for other := range s {
		trace := b.a.Trace(other)
		if other != core && len(trace) > 0 {
			b.t.Fatalf("a call of core %d touched %v as core %d", core, trace, other)
		}
		for _, access := range trace {
			if access.At < b.from || access.At >= b.from+4*len(b.has) {
				b.t.Fatalf("core %d touched word %d, outside", core, access.At)
			}
			s[core][access.At]++
			wrote = wrote || access.Write
		}
	}
	if wrote != writes {
		b.t.Fatalf("core %d: wrote %v, want %v", core, wrote, writes)
	}
}

// open, get, close and list gather a call of that kind.
func (s touches) open(b *book, core, num int) {
	b.t.Helper()
	s.gather(b, core, len(b.has[core]) < api.MaxFds, func() { b.open(core, num) })
}

func (s touches) get(b *book, core, fd int) {
	b.t.Helper()
	s.gather(b, core, false, func() { b.get(core, fd) })
}

func (s touches) close(b *book, core, fd int) {
	b.t.Helper()
	_, had := b.has[core][fd]
	s.gather(b, core, had, func() { b.close(core, fd) })
}

func (s touches) list(b *book, core int) {
	b.t.Helper()
	s.gather(b, core, false, func() { b.list(core) })
}

// round does calls of every kind of a core, also such as are refused, and leaves it with what it had, or with one more.
func (s touches) round(b *book, core int) {
	b.t.Helper()
	s.list(b, core)
	for fd := -1; fd <= api.MaxFds; fd++ {
		s.get(b, core, fd)
		_, had := b.has[core][fd]
		s.close(b, core, fd)
		s.close(b, core, fd)
		if had {
			s.open(b, core, 3+fd)
		}
	}
	s.open(b, core, 1+core)
	s.list(b, core)
}

// wantApart fails if two cores touched one word, or a core touched none.
func (s touches) wantApart(t *testing.T) {
	t.Helper()
	for core := range s {
		if len(s[core]) == 0 {
			t.Errorf("core %d touched no word", core)
		}
		for other := range core {
			for at := range s[core] {
				if s[other][at] > 0 {
					t.Errorf("cores %d and %d touched word %d", other, core, at)
				}
			}
		}
	}
}

// P12.2: calls of unlike cores, from cores that have none to such as have all, round and round.
func TestUnlikeCores(t *testing.T) {
	for cores := 1; cores <= api.MaxCores; cores++ {
		for _, ahead := range []int{0, 1, 13} {
			b := makeBook(t, cores, ahead, 5)
			s := makeTouches(cores)
			for range api.MaxFds + 2 {
				for core := range cores {
					s.round(b, core)
				}
			}
			s.wantApart(t)
			b.end()
		}
	}
}

// P12.2: the same in any row.
func TestUnlikeCoresInAnyRow(t *testing.T) {
	for seed := range 30 {
		g := row(seed)
		cores := 2 + g.below(api.MaxCores-1)
		b := makeBook(t, cores, g.below(9), 3)
		s := makeTouches(cores)
		for core := range cores {
			s.list(b, core)
		}
		for range 60 * cores {
			core := g.below(cores)
			switch g.below(5) {
			case 0, 1:
				s.open(b, core, g.num())
			case 2:
				s.get(b, core, g.below(6)-1)
			case 3:
				s.close(b, core, g.below(6)-1)
			case 4:
				s.list(b, core)
			}
		}
		s.wantApart(t)
	}
}

// P12.2: calls of unlike cores of two Fds side by side touch unlike words too.
func TestSideBySideApart(t *testing.T) {
	const cores = 4
	one := makeBook(t, cores, 2, 4*cores)
	two := bookAt(t, one.a, 2+4*cores)
	s := makeTouches(cores)
	for k := range 6 * cores {
		s.round([]*book{one, two}[k%2], k%cores)
		s.round([]*book{two, one}[k%2], k%cores)
	}
	s.wantApart(t)
}

// For the layers above, whose step has a bound: no call touches more than a core's own MaxFds words.
func TestFewWordsACore(t *testing.T) {
	b := makeBook(t, 3, 1, 1)
	s := makeTouches(3)
	for k := range 18 {
		s.round(b, k%3)
	}
	for core := range s {
		if len(s[core]) != api.MaxFds {
			t.Errorf("core %d touched %v", core, s[core])
		}
	}
}

// More than P12.2 asks, for the layers above: New lets no two cores meet either.
func TestNewLetsNobodyMeet(t *testing.T) {
	b := makeBook(t, 3, 1, 1)
	s := makeTouches(3)
	for core := range 3 {
		b.open(core, 4)
		for _, access := range b.a.Trace(core) {
			s[core][access.At]++
		}
	}
	s.wantApart(t)
}

// Ways: descriptors are words of the arena: what the words held is what the cores have.
func TestDescriptorsAreWords(t *testing.T) {
	g := row(8)
	b := makeBook(t, 5, 2, 2)
	for range 40 {
		words, has := allWords(b.a), make([][]api.Desc, 5)
		for core := range 5 {
			has[core] = b.wantList(core)
		}
		for range 40 {
			b.any(&g, g.below(5))
		}
		for at, v := range words[b.from : b.from+20] {
			b.a.Store(at/4, b.from+at, v)
		}
		for core := range 5 {
			b.has[core] = map[int]int{}
			for _, d := range has[core] {
				b.has[core][d.Fd] = d.Num
			}
		}
		b.look()
		for range 8 {
			b.any(&g, g.below(5))
		}
	}
	b.end()
}
