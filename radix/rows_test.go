package radix_test

import (
	"testing"

	"concourse/api"
)

// someCall does a call that is not refused.
func someCall(g *row, b *book) {
	b.t.Helper()
	core := g.below(b.a.Cores())
	if g.below(6) == 0 {
		b.cut(core, g.below(api.MaxPages+1))
		return
	}
	v := []int{0, 1, 2, 4, 16, g.below(1 << 30)}[g.below(6)]
	b.set(core, g.below(api.MaxPages), v)
}

// P7.1: long rows of calls of several cores, held against the plain pages behind each of them.
func TestRows(t *testing.T) {
	for seed := range 60 {
		g := row(seed)
		b := makeBook(t, 1+g.below(api.MaxCores), g.below(40), leastWords+g.below(40), g.below(40))
		for range 200 {
			someCall(&g, b)
		}
		b.close()
	}
}

// R5: asking, however often, changes nothing.
func TestAskingChangesNothing(t *testing.T) {
	b := makeBook(t, 3, 2, leastWords, 2)
	g := row(12)
	for range 100 {
		someCall(&g, b)
		words := allWords(b.a)
		for range 2 {
			b.want()
		}
		for at, v := range allWords(b.a) {
			if v != words[at] {
				t.Fatalf("word %d was %d, is %d", at, words[at], v)
			}
		}
	}
}
