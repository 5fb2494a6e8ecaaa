package alloc_test

import (
	"slices"
	"testing"
)

// P4.1: Left ahead of and behind Gets and Frees, of every core.
func TestLeft(t *testing.T) {
	b := makeBook(t, 1000, 3, 10, 900)
	fresh := b.left(0)
	if fresh < 1 || b.left(1) != fresh || b.left(2) != fresh {
		t.Errorf("Left %d, %d, %d of fresh cores", fresh, b.left(1), b.left(2))
	}
	p, _ := b.get(1, 20)
	q, _ := b.get(1, 1)
	if b.left(1) > fresh-21 || b.left(0) != fresh || b.left(2) != fresh {
		t.Errorf("Left %d, then %d, %d, %d", fresh, b.left(0), b.left(1), b.left(2))
	}
	behind := b.left(1)
	b.free(p)
	if b.left(1) < behind+20 {
		t.Errorf("Left %d, and %d with 20 words freed", behind, b.left(1))
	}
	b.free(q)
	if b.left(1) != fresh {
		t.Errorf("Left %d, and %d with all freed", fresh, b.left(1))
	}
	b.x.Free(1, p.at)
	b.x.Get(1, 33)
	if b.left(1) != fresh {
		t.Errorf("Left %d, and %d behind calls that were refused", fresh, b.left(1))
	}
}

// P4.1: Left is what the words that are got come to, if pieces are as great as they may be, and never less than in any other way.
func TestLeftIsTheMost(t *testing.T) {
	for share := 64; share < 400; share++ {
		b := makeBook(t, share, 1, 0, share)
		had := b.left(0)
		sum := len(b.fill(0, 32)) * 32
		if rest := b.left(0); rest > 0 {
			if _, ok := b.get(0, rest); !ok {
				t.Errorf("share %d: %d is refused, though it is left", share, rest)
			}
			sum += rest
		}
		if sum != had || b.left(0) != 0 {
			t.Errorf("share %d: Left %d, got %d, then %d", share, had, sum, b.left(0))
		}
		b.close()
	}
}

// P4.1: what is got of a core till nothing more can be is never more than Left told.
func TestLeftIsNeverTooFew(t *testing.T) {
	for seed := range 100 {
		r := row(seed)
		share := 64 + r.below(600)
		b := makeBook(t, 2*share, 2, 0, 2*share)
		for range r.below(30) {
			someCall(&r, b)
		}
		had, sum := b.left(1), 0
		for range 200 {
			p, ok := b.get(1, 1+r.below(32))
			if ok {
				sum += p.size
			}
		}
		sum += len(b.fill(1, 1))
		if sum > had {
			t.Errorf("row %d: got %d, though Left told %d", seed, sum, had)
		}
		slices.Reverse(b.pieces)
		for len(b.pieces) > 0 {
			b.free(b.pieces[0])
		}
		b.close()
	}
}
