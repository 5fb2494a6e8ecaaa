package alloc_test

import (
	"slices"
	"testing"

	"concourse/api"
)

// touched adds to the places that each core has touched, and forgets its trace.
func touched(b *book, places []map[int]int) {
	for core := range places {
		for _, access := range b.a.Trace(core) {
			places[core][access.At]++
		}
		b.a.Clear(core)
	}
}

// P4.2: Gets and Frees of unlike cores, those that are refused too, touch unlike words, all of them within the allocator's.
func TestUnlikeCoresTouchUnlikeWords(t *testing.T) {
	for seed := range 30 {
		r := row(seed)
		cores := 2 + seed%(api.MaxCores-1)
		words := 64*cores + r.below(300*cores)
		from := r.below(50)
		b := makeBook(t, from+words+20, cores, from, words)
		places := make([]map[int]int, cores)
		for core := range cores {
			places[core] = map[int]int{}
			b.a.Clear(core)
		}
		var had []piece
		for range 300 {
			core := r.below(cores)
			if len(had) > 0 && r.below(3) == 0 {
				// Some were freed before, some are another core's.
				b.x.Free(core, had[r.below(len(had))].at)
			} else if len(had) > 0 && r.below(2) == 0 {
				p := had[r.below(len(had))]
				b.x.Free(p.core, p.at)
			} else if at, e := b.x.Get(core, r.below(34)); e == api.OK {
				had = append(had, piece{core: core, at: at})
			}
			touched(b, places)
		}
		for core, own := range places {
			if len(own) == 0 {
				t.Errorf("row %d: core %d touched nothing", seed, core)
			}
			for at := range own {
				if at < from || at >= from+words {
					t.Errorf("row %d: core %d touched word %d, outside", seed, core, at)
				}
				for other := range core {
					if places[other][at] > 0 {
						t.Errorf("row %d: cores %d and %d touched word %d", seed, other, core, at)
					}
				}
			}
		}
	}
}

// P4.2: a call by one core leaves no trace of another.
func TestCallsTraceTheirCoreAlone(t *testing.T) {
	b := makeBook(t, 500, 3, 20, 450)
	for core := range 3 {
		b.a.Clear(core)
	}
	at, _ := b.x.Get(1, 9)
	b.x.Free(1, at)
	b.x.Left(1)
	if len(b.a.Trace(0))+len(b.a.Trace(2)) != 0 || len(b.a.Trace(1)) == 0 {
		t.Errorf("%v, %v, %v", b.a.Trace(0), b.a.Trace(1), b.a.Trace(2))
	}
}

// P4.2: what one core does, another one can't tell.
func TestWhatOthersDoCannotBeTold(t *testing.T) {
	alone, among := makeBook(t, 600, 3, 0, 600), makeBook(t, 600, 3, 0, 600)
	r, others := row(4), row(9)
	for range 300 {
		for range others.below(4) {
			if p := among.pieces; len(p) > 0 && others.below(3) == 0 && p[0].core != 1 {
				among.free(p[0])
			} else {
				among.get(2*others.below(2), 1+others.below(32))
			}
		}
		if own := ofCore(alone, 1); len(own) > 0 && r.below(2) == 0 {
			p := own[r.below(len(own))]
			alone.free(p)
			among.free(p)
			continue
		}
		size := 1 + r.below(32)
		p, ok := alone.get(1, size)
		if q, too := among.get(1, size); p != q || ok != too {
			t.Fatalf("%v, %v, and among others %v, %v", p, ok, q, too)
		}
	}
	if !slices.Equal(ofCore(alone, 1), ofCore(among, 1)) {
		t.Error("other pieces")
	}
}

// R1: whatever somebody stores into the allocator's words, its calls end, and write nothing outside.
func TestWordsThatSomebodyStoredTo(t *testing.T) {
	for seed := range 40 {
		r := row(seed)
		cores := 1 + r.below(3)
		words := 64*cores + r.below(100)
		b := makeBook(t, words+40, cores, 20, words)
		for range 50 {
			for at := 20; at < 20+words; at++ {
				switch r.below(8) {
				case 0:
					b.a.Store(0, at, ^0)
				case 1:
					b.a.Store(0, at, -1<<63)
				case 2:
					b.a.Store(0, at, 1<<63-1)
				case 3:
					b.a.Store(0, at, 0)
				default:
					b.a.Store(0, at, r.below(1<<31)<<33^r.below(1<<31))
				}
			}
			b.a.Clear(0)
			for core := range cores {
				for size := 1; size <= 32; size++ {
					at, e := b.x.Get(core, size)
					if e == api.OK && (at < 20 || at+size > 20+words) {
						t.Fatalf("size %d at %d", size, at)
					}
					b.left(core)
				}
				for at := range words + 40 {
					b.x.Free(core, at)
				}
				b.left(core)
			}
		}
		b.close()
	}
}
