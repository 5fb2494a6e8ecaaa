package refs_test

import (
	"testing"

	"concourse/api"
)

// touches are the words that each core touched, gathered over calls.
type touches []map[int]int

func makeTouches(cores int) touches {
	s := make(touches, cores)
	for core := range s {
		s[core] = map[int]int{}
	}
	return s
}

// gather takes a call's accesses: they must be its core's alone, some of them writings, and within the counts' words.
func (s touches) gather(b *book, core int) {
	b.t.Helper()
	wrote := false
	for other := range b.cores {
		trace := b.a.Trace(other)
		if other != core && len(trace) > 0 {
			b.t.Fatalf("a call of core %d touched %v as core %d", core, trace, other)
		}
		for _, access := range trace {
			if access.At < b.from || access.At >= b.from+wordsOf(b.cores, b.objects) {
				b.t.Fatalf("core %d touched word %d, outside", core, access.At)
			}
			s[core][access.At]++
			wrote = wrote || access.Write
		}
	}
	if !wrote {
		b.t.Fatalf("core %d counted and wrote no word", core)
	}
}

// wantApart fails if two cores touched one word.
func (s touches) wantApart(t *testing.T) {
	t.Helper()
	for core := range s {
		for other := range core {
			for at := range s[core] {
				if s[other][at] > 0 {
					t.Errorf("cores %d and %d touched word %d", other, core, at)
				}
			}
		}
	}
}

// P6.3: Incs and Decs of unlike cores touch unlike words, of one object.
func TestUnlikeCoresOfOneObject(t *testing.T) {
	for _, objects := range []int{1, 2, 64} {
		for obj := range objects {
			b := makeBook(t, api.MaxCores, objects, 5, 5)
			s := makeTouches(b.cores)
			for k := range 4 * b.cores {
				core := k % b.cores
				clearTraces(b.a)
				if k/b.cores%2 == 0 {
					b.r.Inc(core, obj)
				} else {
					b.r.Dec(core, obj)
				}
				s.gather(b, core)
			}
			s.wantApart(t)
		}
	}
}

// P6.3: the same of several objects, in any row, with Flushes between that are not looked at.
func TestUnlikeCoresOfSeveralObjects(t *testing.T) {
	for seed := range 30 {
		g := row(seed)
		cores := 2 + g.below(api.MaxCores-1)
		b := makeBook(t, cores, 1+g.below(64), g.below(9), 3)
		s := makeTouches(cores)
		for range 400 {
			core, obj := g.below(cores), g.below(b.objects)
			if g.below(6) == 0 {
				b.r.Flush(g.below(cores))
			}
			clearTraces(b.a)
			if g.below(2) == 0 {
				b.r.Inc(core, obj)
			} else {
				b.r.Dec(core, obj)
			}
			s.gather(b, core)
		}
		s.wantApart(t)
	}
}

// P6.3: while cores count, asking for sums lets no two of them meet either.
func TestAskingLetsNobodyMeet(t *testing.T) {
	b := makeBook(t, 3, 4, 0, 0)
	clearTraces(b.a)
	for k := range 60 {
		b.r.Inc(k%3, k%4)
		b.r.Total(k % 4)
		b.r.Dec((k+1)%3, k%4)
		b.r.Global(k % 4)
		b.r.Dead()
		b.r.Epoch()
	}
	s := makeTouches(3)
	for core := range 3 {
		for _, access := range b.a.Trace(core) {
			s[core][access.At]++
		}
	}
	s.wantApart(t)
}

// P6.3: if an object is told dead, and no Inc fell within the two epochs, its Total was 0 at some time behind its last
// Inc, whatever the row of Decs and Flushes is.
func TestDeadOnlyIfTheTotalWasZero(t *testing.T) {
	died := 0
	for seed := range 400 {
		g := row(seed)
		cores := 2 + g.below(3)
		b := makeBook(t, cores, 3, 0, 0)
		lastInc := []int{-9, -9, -9} // in which epoch
		wasZero := []bool{true, true, true}
		told := []bool{false, false, false}
		for range 250 {
			core, obj := g.below(cores), g.below(3)
			switch {
			case g.below(4) > 0:
				b.flush(core)
			case b.p.total(obj) > 0 && g.below(3) > 0:
				b.dec(core, obj)
				wasZero[obj] = wasZero[obj] || b.p.total(obj) == 0
			case lastInc[obj] < 0 || b.p.total(obj) > 0: // nobody counts up what is 0, but at first
				b.inc(core, obj)
				lastInc[obj], wasZero[obj] = b.r.Epoch(), false
			}
			for _, obj := range b.r.Dead() {
				if told[obj] {
					continue
				}
				told[obj] = true
				if lastInc[obj] < b.r.Epoch()-2 {
					died++
					if !wasZero[obj] {
						t.Fatalf("row %d: object %d is told dead, Total %d", seed, obj, b.p.total(obj))
					}
				}
			}
		}
	}
	if died < 100 {
		t.Errorf("%d objects died", died)
	}
}
