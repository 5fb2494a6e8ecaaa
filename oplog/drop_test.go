package oplog_test

import (
	"math"
	"testing"

	"concourse/api"
)

// ofThree gives three cores' logs: 2/0 4/0 9/0, 4/1 5/1, 4/2.
func ofThree(t *testing.T) *book {
	t.Helper()
	b := makeBook(t, 3)
	b.add(by(0, 1), st(1, 5))
	b.add(by(1, 2), st(3, 0))
	b.add(by(0, 3), st(3, 7))
	b.add(by(2, 4), st(3, 3))
	b.add(by(1, 5), st(0, 0))
	b.add(by(0, 6), st(8, 1))
	wantTold(t, "Merge", b.l.Merge(), "2/0:1 4/0:3 4/1:2 4/2:4 5/1:5 9/0:6")
	return b
}

// P17.1: a stamp below all, equal to one, between two and above all; how many went, and what stays.
func TestDrop(t *testing.T) {
	for _, c := range []struct {
		upto api.Stamp
		gone int
		left string
	}{
		{st(0, 0), 0, "2/0:1 4/0:3 4/1:2 4/2:4 5/1:5 9/0:6"},
		{st(1, 7), 0, "2/0:1 4/0:3 4/1:2 4/2:4 5/1:5 9/0:6"},
		{st(2, 0), 1, "4/0:3 4/1:2 4/2:4 5/1:5 9/0:6"},
		{st(2, 1), 1, "4/0:3 4/1:2 4/2:4 5/1:5 9/0:6"},
		{st(3, 7), 1, "4/0:3 4/1:2 4/2:4 5/1:5 9/0:6"},
		{st(4, 0), 2, "4/1:2 4/2:4 5/1:5 9/0:6"},
		{st(4, 1), 3, "4/2:4 5/1:5 9/0:6"},
		{st(4, 2), 4, "5/1:5 9/0:6"},
		{st(4, 7), 4, "5/1:5 9/0:6"},
		{st(5, 0), 4, "5/1:5 9/0:6"},
		{st(5, 1), 5, "9/0:6"},
		{st(8, 7), 5, "9/0:6"},
		{st(9, 0), 6, ""},
		{st(9, 1), 6, ""},
		{st(most, 7), 6, ""},
	} {
		b := ofThree(t)
		if gone := b.drop(c.upto); gone != c.gone {
			t.Errorf("Drop(%v): %d, want %d", c.upto, gone, c.gone)
		}
		wantTold(t, "Merge", b.l.Merge(), c.left)
		b.check()
		if gone := b.drop(c.upto); gone != 0 {
			t.Errorf("Drop(%v) again: %d", c.upto, gone)
		}
		b.check()
	}
}

// P17.1: Drop goes by layer 16's order, of stamps that may not be too.
func TestDropOfStampsThatMayNotBe(t *testing.T) {
	for _, c := range []struct {
		upto api.Stamp
		gone int
	}{
		{st(-1, 0), 0}, {st(math.MinInt, math.MaxInt), 0}, {st(2, -1), 0}, {st(4, -1), 1}, {st(4, 8), 4}, {st(4, math.MaxInt), 4},
		{st(4, math.MinInt), 1}, {st(9, -1), 5}, {st(9, 99), 6}, {st(most+1, 0), 6}, {st(math.MaxInt, math.MinInt), 6}, {st(math.MaxInt, math.MaxInt), 6},
	} {
		b := ofThree(t)
		if gone := b.drop(c.upto); gone != c.gone {
			t.Errorf("Drop(%v): %d, want %d", c.upto, gone, c.gone)
		}
		b.check()
	}
}

// P17.1: of empty logs nothing goes, and the last stamps stay.
func TestDropOfNothing(t *testing.T) {
	for cores := 1; cores <= 8; cores++ {
		b := makeBook(t, cores)
		for _, upto := range []api.Stamp{st(0, 0), st(0, 7), st(1, 0), st(most, 7), st(-1, -1), st(math.MaxInt, math.MaxInt)} {
			if gone := b.drop(upto); gone != 0 {
				t.Errorf("Drop(%v): %d", upto, gone)
			}
			b.check()
		}
		b.add(by(cores-1, 1), api.Stamp{})
		b.check()
	}
}

// P17.1: Last of a core whose records are all dropped is as it was, and the core goes on from it.
func TestLastBehindADrop(t *testing.T) {
	b := ofThree(t)
	b.drop(st(most, 7))
	wantLast(t, b.l, 0, st(9, 0))
	wantLast(t, b.l, 1, st(5, 1))
	wantLast(t, b.l, 2, st(4, 2))
	b.add(by(2, 7), st(0, 0))
	b.add(by(1, 8), st(5, 2))
	b.add(by(0, 9), st(2, 2))
	b.check()
	wantTold(t, "Merge", b.l.Merge(), "5/2:7 6/1:8 10/0:9")
}

// P17.1: what was dropped may still be seen, and what is added below an earlier Drop stays.
func TestAddsBehindADrop(t *testing.T) {
	b := makeBook(t, 3)
	first := b.add(by(0, 1), st(6, 0))
	if gone := b.drop(st(100, 0)); gone != 1 {
		t.Fatalf("%d went", gone)
	}
	b.add(by(1, 2), first)
	b.add(by(2, 3), st(0, 0))
	b.add(by(0, 4), st(0, 0))
	b.check()
	wantTold(t, "Merge", b.l.Merge(), "1/2:3 8/0:4 8/1:2")
	if gone := b.drop(st(8, 0)); gone != 2 {
		t.Errorf("%d went", gone)
	}
	wantTold(t, "Merge", b.l.Merge(), "8/1:2")
	b.check()
}

// P17.1: Drop one by one, up to each stamp of the merged row.
func TestDropOneByOne(t *testing.T) {
	b := makeBook(t, 4)
	g := row(4)
	for num := range 60 {
		b.add(by(g.below(4), num), st(g.below(num+1), g.below(8)))
	}
	for _, r := range b.l.Merge() {
		if gone := b.drop(r.Stamp); gone != 1 {
			t.Fatalf("Drop(%v): %d", r.Stamp, gone)
		}
		b.check()
	}
	wantRecords(t, "Merge", b.l.Merge(), nil)
}
