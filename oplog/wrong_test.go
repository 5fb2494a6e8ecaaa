package oplog_test

import (
	"testing"

	"concourse/api"
	"concourse/oplog"
)

// refuseAll makes all Adds that are wrong by one thing, and by several.
func (b *book) refuseAll() {
	b.t.Helper()
	for _, kind := range wrongKinds() {
		for core := range b.last {
			b.refuse(api.Call{Kind: kind, Core: core, Path: "/x"}, st(900, 0), api.ErrOplogForm)
		}
	}
	for _, core := range wrongCores(len(b.last)) {
		for _, kind := range []int{0, 5, 16} {
			b.refuse(api.Call{Kind: kind, Core: core, Path: "/x"}, st(900, 0), api.ErrOplogForm)
		}
	}
	for _, seen := range wrongStamps() {
		for core := range b.last {
			b.refuse(by(core, 1), seen, api.ErrOplogForm)
		}
		b.refuse(by(-1, 1), seen, api.ErrOplogForm)
		b.refuse(api.Call{Kind: 17, Core: 8}, seen, api.ErrOplogForm)
	}
}

// P17.1, R2, R5: wrong Adds answer no stamp, and change nothing: of empty logs, of some records, behind a Drop.
func TestWrongAddsChangeNothing(t *testing.T) {
	for cores := 1; cores <= 8; cores++ {
		b := makeBook(t, cores)
		b.refuseAll()
		b.check()
		for num := range 3 * cores {
			b.add(by(num%cores, num), st(num/2, 0))
		}
		b.refuseAll()
		b.check()
		b.drop(st(3, 0))
		b.refuseAll()
		b.check()
		b.add(by(cores-1, 99), api.Stamp{})
		b.check()
	}
}

// P17.1: the least and the greatest kinds, cores and seen stamps that may be are taken.
func TestEdgesThatAreTaken(t *testing.T) {
	for cores := 1; cores <= 8; cores++ {
		b := makeBook(t, cores)
		for _, kind := range []int{0, 1, 15, 16} {
			for _, core := range []int{0, cores - 1} {
				for _, seen := range []api.Stamp{st(0, 0), st(0, 7), st(most-1000, 0), st(most-1000, 7)} {
					b.add(api.Call{Kind: kind, Core: core}, seen)
				}
			}
		}
		b.add(by(0, 1), st(most, 7))
		b.check()
	}
}

// R3, R6: no Log answers ErrNil, ahead of all other errors, and else nothing.
func TestNilLog(t *testing.T) {
	var none *oplog.Log
	for _, c := range []api.Call{{}, by(3, 1), {Kind: 17}, {Kind: -1, Core: -1}} {
		for _, seen := range []api.Stamp{{}, st(4, 4), st(-1, 9)} {
			if s, e := none.Add(c, seen); s != (api.Stamp{}) || e != api.ErrNil {
				t.Errorf("Add(%+v, %v): %v, error %d", c, seen, s, e)
			}
		}
	}
	wantNothing(t, none)
}

// R1: a Log that New did not make has no core.
func TestLogThatWasNotMade(t *testing.T) {
	bare := new(oplog.Log)
	for core := -1; core <= 8; core++ {
		if s, e := bare.Add(by(core, 1), api.Stamp{}); s != (api.Stamp{}) || e != api.ErrOplogForm {
			t.Errorf("Add of core %d: %v, error %d", core, s, e)
		}
	}
	wantNothing(t, bare)
}

// wantNothing fails unless a Log has no core and no record.
func wantNothing(t *testing.T, l *oplog.Log) {
	t.Helper()
	for _, core := range append(wrongCores(1), 0, 1, 7) {
		wantRecords(t, "Core", l.Core(core), nil)
		wantLast(t, l, core, api.Stamp{})
	}
	wantRecords(t, "Merge", l.Merge(), nil)
	for _, upto := range []api.Stamp{{}, st(most, 7), st(-1, -1)} {
		if gone := l.Drop(upto); gone != 0 {
			t.Errorf("Drop(%v): %d", upto, gone)
		}
	}
}
