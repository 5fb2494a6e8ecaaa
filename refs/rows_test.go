package refs_test

import (
	"testing"

	"concourse/api"
)

// P6.1, P6.2: long rows of calls, held against the plain counts behind each of them.
func TestRows(t *testing.T) {
	ended, died := 0, 0
	for seed := range 60 {
		g := row(seed)
		cores, objects := 1+g.below(api.MaxCores), 1+g.below(6)
		if seed%10 == 0 {
			objects = 64
		}
		b := makeBook(t, cores, objects, g.below(30), g.below(30))
		for range 300 {
			someCall(&g, b)
		}
		b.close()
		ended += b.r.Epoch()
		died += len(b.r.Dead())
	}
	if ended < 500 || died < 50 {
		t.Errorf("the rows ended %d epochs, and %d objects died", ended, died)
	}
}

// P6.1, P6.2: rows in which objects are counted seldom and cores flush in turn, so that many die.
func TestQuietRows(t *testing.T) {
	died := 0
	for seed := range 40 {
		g := row(100 + seed)
		cores := 1 + g.below(4)
		b := makeBook(t, cores, 8, 0, 0)
		for range 30 {
			for core := range cores {
				for range g.below(3) {
					obj := g.below(8)
					if b.p.total(obj) > 0 && g.below(3) > 0 {
						b.dec(g.below(cores), obj)
					} else {
						b.inc(core, obj)
					}
				}
				b.flush((core + seed) % cores)
			}
		}
		died += len(b.r.Dead())
	}
	if died < 40 {
		t.Errorf("%d objects died", died)
	}
}

// R5: asking, however often, changes nothing.
func TestAskingChangesNothing(t *testing.T) {
	b := makeBook(t, 3, 4, 2, 2)
	g := row(12)
	for range 100 {
		someCall(&g, b)
		words := allWords(b.a)
		for range 2 {
			b.want()
		}
		for at, v := range allWords(b.a) {
			if v != words[at] {
				t.Fatalf("word %d was %d, is %d", at, words[at], v)
			}
		}
	}
}
