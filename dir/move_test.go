package dir_test

import (
	"testing"

	"concourse/api"
)

// wantMove fails unless a Move answers this (and what the plain entries say).
func wantMove(b *book, core int, s, to string, want api.Errno) {
	b.t.Helper()
	if e := b.move(core, s, to); e != want {
		b.t.Errorf("Move(%d, %q, %q): error %d, want %d", core, s, to, e, want)
	}
}

// P9.1: from every bucket to every bucket, and back.
func TestMoveBetweenBuckets(t *testing.T) {
	names := byBucket(2)
	for i := range names {
		for k := range names {
			b := makeBook(t, 2, 1, leastWords, 1)
			b.insert(0, names[i][0], 77)
			wantMove(b, 1, names[i][0], names[k][1], api.OK)
			if num, e := b.d.Find(0, names[k][1]); num != 77 || e != api.OK {
				t.Errorf("bucket %d to %d: %d, error %d", i, k, num, e)
			}
			if num, e := b.d.Find(0, names[i][0]); num != 0 || e != api.ErrDirNone {
				t.Errorf("bucket %d to %d: the old name: %d, error %d", i, k, num, e)
			}
			wantMove(b, 0, names[i][0], names[k][1], api.ErrDirNone)
			wantMove(b, 0, names[k][1], names[i][0], api.OK)
			b.close()
		}
	}
}

// P9.1: within one bucket that is full there is room for the name that is moved: each of its names, over and over.
func TestMoveWithinAFullBucket(t *testing.T) {
	for _, names := range byBucket(2 * api.MaxSlots) {
		b := makeBook(t, 2, 0, leastWords, 0)
		first, second := names[:api.MaxSlots], names[api.MaxSlots:]
		for k, s := range first {
			b.insert(0, s, k+1)
		}
		for range 2 {
			for k := range first {
				wantMove(b, 1, first[k], second[k], api.OK)
				if e := b.insert(0, first[k], 9); e != api.ErrDirFull {
					t.Errorf("a Move within a bucket left room: %d", e)
				}
			}
			for k := range first {
				wantMove(b, 0, second[k], first[api.MaxSlots-1-k], api.OK)
			}
		}
	}
}

// P9.1: within a bucket that has room, as well; the room stays.
func TestMoveWithinABucket(t *testing.T) {
	for count := 1; count < api.MaxSlots; count++ {
		for _, names := range byBucket(2 * api.MaxSlots) {
			b := makeBook(t, 1, 0, leastWords, 0)
			for k := range count {
				b.insert(0, names[k], k+1)
			}
			for k := range count {
				wantMove(b, 0, names[k], names[api.MaxSlots+k], api.OK)
			}
			for k := count; k < api.MaxSlots; k++ {
				if e := b.insert(0, names[k], k+1); e != api.OK {
					t.Errorf("name %d: error %d", k, e)
				}
			}
			if e := b.insert(0, names[0], 1); e != api.ErrDirFull {
				t.Errorf("one more: error %d", e)
			}
		}
	}
}

// P9.1: into a bucket that is full of others; with one of them gone there is room, in both buckets.
func TestMoveIntoAFullBucket(t *testing.T) {
	names := byBucket(2 * api.MaxSlots)
	for i := range names {
		k := (i + 3) % api.Buckets
		b := makeBook(t, 2, 0, leastWords, 0)
		b.fill(0)
		from, into := names[i], names[k]
		wantMove(b, 1, from[0], into[api.MaxSlots], api.ErrDirFull)
		b.remove(0, into[2])
		wantMove(b, 1, from[0], into[api.MaxSlots], api.OK)
		wantMove(b, 1, from[1], into[api.MaxSlots+1], api.ErrDirFull)
		if e := b.insert(0, from[api.MaxSlots], 1); e != api.OK {
			t.Errorf("no room where a name was moved away: %d", e)
		}
		if e := b.insert(0, from[api.MaxSlots+1], 1); e != api.ErrDirFull {
			t.Errorf("room for two: %d", e)
		}
	}
}

// P9.1: full but for the moved name itself, and one other fewer: the last room is taken from elsewhere, or kept.
func TestMoveTakesTheLastRoom(t *testing.T) {
	names := byBucket(2 * api.MaxSlots)
	for i := range names {
		b := makeBook(t, 1, 0, leastWords, 0)
		for k := range api.MaxSlots - 1 {
			b.insert(0, names[i][k], k+1)
		}
		other := names[(i+1)%api.Buckets]
		b.insert(0, other[0], 50)
		b.insert(0, other[1], 51)
		wantMove(b, 0, other[0], names[i][api.MaxSlots], api.OK)
		wantMove(b, 0, other[1], names[i][api.MaxSlots+1], api.ErrDirFull)
		wantMove(b, 0, names[i][api.MaxSlots], names[i][api.MaxSlots+1], api.OK)
		wantMove(b, 0, names[i][0], names[i][api.MaxSlots], api.OK)
		wantMove(b, 0, other[1], names[i][0], api.ErrDirFull)
	}
}

// P9.1, R6: a name that is not there is told first, then a second one that is there, then that there is no room.
func TestWhichErrorOfAMove(t *testing.T) {
	names := byBucket(api.MaxSlots + 2)
	b := makeBook(t, 2, 0, leastWords, 0)
	b.fill(1)
	for i := range names {
		for k := range names {
			is, to := names[i][1], names[k][2]
			gone, new := names[i][api.MaxSlots], names[k][api.MaxSlots+1]
			wantMove(b, 0, gone, to, api.ErrDirNone)
			wantMove(b, 0, gone, new, api.ErrDirNone)
			wantMove(b, 0, is, to, api.ErrDirExist)
			if i != k {
				wantMove(b, 0, is, new, api.ErrDirFull)
			}
		}
	}
}

// P9.1: to itself: it is there, if it is; with its bucket full, and with it alone.
func TestMoveToItself(t *testing.T) {
	b := makeBook(t, 2, 0, leastWords, 0)
	wantMove(b, 0, "a", "a", api.ErrDirNone)
	b.insert(0, "a", 4)
	wantMove(b, 1, "a", "a", api.ErrDirExist)
	b.remove(0, "a")
	wantMove(b, 1, "a", "a", api.ErrDirNone)
	b.fill(0)
	for _, entry := range b.sorted() {
		wantMove(b, 1, entry.Name, entry.Name, api.ErrDirExist)
	}
}

// P9.1: between names of every length.
func TestMoveShorterAndLonger(t *testing.T) {
	names := []string{"x", "abcdefghijkl", "é", "日本語の", "12345678", "123456789", "\U0001F600\U0001F600\U0001F600", ".y", "1234日5678"}
	for _, s := range names {
		for _, to := range names {
			if s == to {
				continue
			}
			b := makeBook(t, 1, 0, leastWords, 0)
			b.insert(0, s, mostNumber)
			wantMove(b, 0, s, to, api.OK)
			wantMove(b, 0, to, s, api.OK)
		}
	}
}
