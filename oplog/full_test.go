package oplog_test

import (
	"testing"

	"concourse/api"
)

// fill adds calls of a core until its log has so many records.
func (b *book) fill(core, upto int) {
	b.t.Helper()
	for len(b.of(core)) < upto {
		b.add(by(core, len(b.kept)), api.Stamp{})
	}
}

// P17.1: a log has room for MaxLog records, and no more; that changes nothing.
func TestFull(t *testing.T) {
	b := makeBook(t, 3)
	b.fill(1, 255)
	b.check()
	b.add(by(1, 255), api.Stamp{})
	wantLast(t, b.l, 1, st(256, 1))
	for range 3 {
		b.refuse(by(1, 999), api.Stamp{}, api.ErrOplogFull)
		b.refuse(full(api.CallSync, 1, 999), st(5000, 2), api.ErrOplogFull)
	}
	b.check()
	b.add(by(0, 1), st(256, 1))
	b.add(by(2, 2), api.Stamp{})
	b.check()
	b.refuse(by(1, 999), api.Stamp{}, api.ErrOplogFull)
}

// P17.1: each core has room of its own, all at one time.
func TestAllFull(t *testing.T) {
	b := makeBook(t, 8)
	for core := range 8 {
		b.fill(core, 256)
	}
	for core := range 8 {
		b.refuse(by(core, 999), api.Stamp{}, api.ErrOplogFull)
	}
	b.check()
	if all := b.l.Merge(); len(all) != 2048 {
		t.Errorf("%d records", len(all))
	}
	if gone := b.drop(st(256, 7)); gone != 2048 {
		t.Errorf("%d went", gone)
	}
	b.check()
}

// R6: what is wrong by its form is told ahead of want of room.
func TestFormAheadOfFull(t *testing.T) {
	b := makeBook(t, 1)
	b.fill(0, 256)
	for _, kind := range wrongKinds() {
		b.refuse(api.Call{Kind: kind}, api.Stamp{}, api.ErrOplogForm)
	}
	for _, core := range wrongCores(1) {
		b.refuse(by(core, 1), api.Stamp{}, api.ErrOplogForm)
	}
	for _, seen := range wrongStamps() {
		b.refuse(by(0, 1), seen, api.ErrOplogForm)
	}
	b.check()
}

// P17.1: a Drop makes room for just as many as went; the stamps go on from the last one.
func TestRoomBehindADrop(t *testing.T) {
	for _, upto := range []int{1, 2, 100, 255, 256} {
		b := makeBook(t, 2)
		b.fill(0, 256)
		b.refuse(by(0, 999), api.Stamp{}, api.ErrOplogFull)
		if gone := b.drop(st(upto, 0)); gone != upto {
			t.Fatalf("%d went, want %d", gone, upto)
		}
		wantLast(t, b.l, 0, st(256, 0))
		for num := range upto {
			if got := b.add(by(0, 1000+num), api.Stamp{}); got != st(257+num, 0) {
				t.Fatalf("%v, want %v", got, st(257+num, 0))
			}
		}
		b.refuse(by(0, 999), api.Stamp{}, api.ErrOplogFull)
		b.check()
	}
}

// P17.1: a Drop that takes nothing of a full log makes no room in it.
func TestNoRoomBehindAnIdleDrop(t *testing.T) {
	b := makeBook(t, 2)
	b.add(by(0, 1), st(1000, 0))
	b.fill(0, 256)
	b.fill(1, 10)
	if gone := b.drop(st(1000, 7)); gone != 10 {
		t.Fatalf("%d went", gone)
	}
	b.refuse(by(0, 999), api.Stamp{}, api.ErrOplogFull)
	b.check()
}

// P17.1: logs that are filled and emptied over and over hold what they must.
func TestFillAndDrop(t *testing.T) {
	b := makeBook(t, 2)
	for turn := range 10 {
		b.fill(0, 256)
		b.fill(1, 30*turn%257)
		b.check()
		b.drop(st(b.last[0].Count-50*turn%256, turn%2))
		b.check()
	}
}
