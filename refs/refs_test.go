package refs_test

import (
	"testing"

	"concourse/api"
	"concourse/refs"
)

// P6.1: parts of several cores, with Global and Total ahead of and behind Flushes.
func TestPartsAndFlushes(t *testing.T) {
	b := makeBook(t, 3, 4, 11, 9)
	for obj := range 4 {
		b.wantCounts(obj, 0, 0)
	}
	b.inc(0, 2)
	b.inc(0, 2)
	b.inc(2, 2)
	b.dec(1, 2)
	b.inc(1, 3)
	b.wantCounts(2, 0, 2)
	b.wantCounts(3, 0, 1)
	b.flush(1)
	b.wantCounts(2, -1, 2)
	b.wantCounts(3, 1, 1)
	b.flush(0)
	b.wantCounts(2, 1, 2)
	b.flush(2)
	b.wantCounts(2, 2, 2)
	b.dec(2, 2)
	b.dec(2, 2)
	b.dec(2, 3)
	b.wantCounts(2, 2, 0)
	b.wantCounts(3, 1, 0)
	b.flush(2)
	b.wantCounts(2, 0, 0)
	b.wantCounts(3, 0, 0)
	b.wantCounts(0, 0, 0)
	b.wantCounts(1, 0, 0)
	b.close()
}

// P6.1: a Flush adds what its own core counted, once, and no other core's.
func TestAFlushIsOfItsOwnCore(t *testing.T) {
	b := makeBook(t, 3, 2, 0, 0)
	b.inc(0, 1)
	b.inc(1, 1)
	b.inc(2, 1)
	b.flush(1)
	b.wantCounts(1, 1, 3)
	b.flush(1, 1, 1)
	b.wantCounts(1, 1, 3)
	b.inc(1, 1)
	b.flush(1)
	b.wantCounts(1, 2, 4)
}

// P6.1: parts and counts below 0, a part that came back to 0.
func TestCountsBelowZero(t *testing.T) {
	b := makeBook(t, 2, 2, 3, 0)
	b.dec(1, 0)
	b.dec(1, 0)
	b.wantCounts(0, 0, -2)
	b.flush(1)
	b.wantCounts(0, -2, -2)
	b.inc(0, 0)
	b.dec(0, 0)
	b.flush(0)
	b.wantCounts(0, -2, -2)
	b.dec(0, 0)
	b.wantCounts(0, -2, -3)
	b.flush(0)
	b.wantCounts(0, -3, -3)
}

// P6.1: an epoch ends when all cores have flushed in it, in whatever row, and then none has in the next one.
func TestEpochsEnd(t *testing.T) {
	b := makeBook(t, 3, 1, 2, 2)
	wantEpoch := func(want int) {
		t.Helper()
		if got := b.r.Epoch(); got != want {
			t.Fatalf("Epoch %d, want %d", got, want)
		}
	}
	wantEpoch(0)
	b.flush(0, 1)
	wantEpoch(0)
	b.flush(1, 0, 0, 1)
	wantEpoch(0)
	b.flush(2)
	wantEpoch(1)
	b.flush(2, 2, 2)
	wantEpoch(1)
	b.flush(1, 2)
	wantEpoch(1)
	b.flush(0)
	wantEpoch(2)
	b.flush(0, 1)
	wantEpoch(2)
	b.inc(2, 0)
	b.dec(0, 0)
	wantEpoch(2)
	b.flush(2)
	wantEpoch(3)
}

// P6.1: each core is waited for.
func TestEveryCoreIsWaitedFor(t *testing.T) {
	for cores := 1; cores <= api.MaxCores; cores++ {
		b := makeBook(t, cores, 1, 0, 1)
		for late := range cores {
			for range 3 {
				for core := range cores {
					if core != late {
						b.flush(core)
					}
				}
			}
			if cores > 1 && b.r.Epoch() != late {
				t.Fatalf("%d cores: core %d was not waited for", cores, late)
			}
			b.flush(late)
			if cores > 1 && b.r.Epoch() != late+1 {
				t.Fatalf("%d cores: Epoch %d behind core %d's Flush", cores, b.r.Epoch(), late)
			}
		}
	}
}

// P6.1: one core alone: each Flush of it ends an epoch.
func TestOneCoreAlone(t *testing.T) {
	b := makeBook(t, 1, 2, 5, 0)
	for k := range 5 {
		if b.r.Epoch() != k {
			t.Fatalf("Epoch %d, want %d", b.r.Epoch(), k)
		}
		b.inc(0, 1)
		b.wantCounts(1, k, k+1)
		b.flush(0)
		b.wantCounts(1, k+1, k+1)
	}
	b.wantDead()
	b.close()
}

// P6.1: one object and 64, from 0 and from further on, words that just fit and one word fewer.
func TestWordsThatJustFit(t *testing.T) {
	for cores := 1; cores <= api.MaxCores; cores++ {
		for _, objects := range []int{1, 2, 33, 63, 64} {
			for _, ahead := range []int{0, 1, 50} {
				b := makeBook(t, cores, objects, ahead, 0)
				for _, core := range []int{0, cores - 1} {
					for _, obj := range []int{0, objects - 1} {
						b.inc(core, obj)
						b.inc(core, obj)
						b.dec(core, obj)
					}
				}
				b.turn()
				b.turn()
				b.close()
				a := makeArena(t, ahead+wordsOf(cores, objects)-1, cores)
				if r, e := refs.New(a, ahead, objects); r != nil || e != api.ErrRefsForm {
					t.Errorf("%d cores, %d objects, from %d, one word fewer: error %d", cores, objects, ahead, e)
				}
				wantUntouched(t, a)
			}
		}
	}
}

// P6.1: counts at the end of the greatest arena.
func TestTheGreatestArena(t *testing.T) {
	const words = (64 + 2) * (api.MaxCores + 2)
	a := makeArena(t, api.MaxArena, api.MaxCores)
	if _, e := refs.New(a, api.MaxArena-words+1, 64); e != api.ErrRefsForm {
		t.Errorf("one word behind: error %d", e)
	}
	r, e := refs.New(a, api.MaxArena-words, 64)
	if e != api.OK {
		t.Fatalf("error %d", e)
	}
	r.Inc(api.MaxCores-1, 63)
	if n, e := r.Total(63); n != 1 || e != api.OK {
		t.Errorf("Total %d, error %d", n, e)
	}
}

// P6.1: each core's part of each object is its own.
func TestEachPartIsItsOwn(t *testing.T) {
	for _, c := range [][2]int{{1, 1}, {2, 3}, {3, 64}, {api.MaxCores, 5}, {api.MaxCores, 64}} {
		cores, objects := c[0], c[1]
		r := makeBook(t, cores, objects, 4, 4)
		for core := range cores {
			for obj := range objects {
				for range 1 + (core*objects+obj)%3 {
					r.r.Inc(core, obj)
					r.p.count(core, obj, 1)
				}
			}
		}
		r.want()
		for core := range cores {
			r.flush(core)
		}
		r.close()
	}
}

// P6.1: counts made where others were begin anew.
func TestNewAgain(t *testing.T) {
	b := makeBook(t, 2, 3, 6, 1)
	b.inc(0, 1)
	b.inc(1, 2)
	b.dec(0, 2)
	b.turn()
	b.turn()
	b.turn()
	b.inc(0, 0)
	b.wantDead(2)
	r, e := refs.New(b.a, 6, 3)
	if e != api.OK {
		t.Fatalf("error %d", e)
	}
	b.r, b.p = r, makePlain(2, 3)
	b.want()
	b.turn()
	b.turn()
	b.turn()
	b.wantDead()
	b.close()
}

// P6.1: counts side by side in one arena know nothing of each other.
func TestTwoCounts(t *testing.T) {
	const cores, objects = 3, 4
	one := makeBook(t, cores, objects, 0, wordsOf(cores, objects))
	r, e := refs.New(one.a, wordsOf(cores, objects), objects)
	if e != api.OK {
		t.Fatalf("error %d", e)
	}
	two := &book{t: t, a: one.a, r: r, p: makePlain(cores, objects), from: wordsOf(cores, objects), cores: cores, objects: objects}
	g := row(3)
	for range 600 {
		someCall(&g, []*book{one, two}[g.below(2)])
		one.want()
		two.want()
	}
}

// someCall does one of the calls that count, of any core and object.
func someCall(g *row, b *book) {
	b.t.Helper()
	core, obj := g.below(b.cores), g.below(b.objects)
	switch g.below(5) {
	case 0:
		b.inc(core, obj)
	case 1:
		b.dec(core, obj)
	default:
		b.flush(core)
	}
}
