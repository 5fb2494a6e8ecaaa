package oplog_test

import (
	"math"
	"testing"

	"concourse/api"
	"concourse/oplog"
)

// P17.1: New of 1 to MaxCores cores, all of whose logs are empty, with {0, core} as last stamps.
func TestNew(t *testing.T) {
	for cores := 1; cores <= 8; cores++ {
		l := makeLog(t, cores)
		wantRecords(t, "Merge", l.Merge(), nil)
		for core := range cores {
			wantRecords(t, "Core", l.Core(core), nil)
			wantLast(t, l, core, st(0, core))
		}
		for _, core := range wrongCores(cores) {
			wantRecords(t, "Core", l.Core(core), nil)
			wantLast(t, l, core, st(0, 0))
		}
	}
}

// P17.1: New of numbers of cores that may not be.
func TestNewRefuses(t *testing.T) {
	for _, cores := range []int{0, 9, 10, 16, 256, -1, -8, 1 << 32, 1<<32 + 1, math.MinInt, math.MinInt + 1, math.MaxInt} {
		if l, e := oplog.New(cores); l != nil || e != api.ErrOplogForm {
			t.Errorf("New(%d): error %d", cores, e)
		}
	}
}

// P17.1: the first Add of each core, whose last stamp is {0, core}, with nothing seen and with something.
func TestFirstAdd(t *testing.T) {
	for core := range 8 {
		for _, seen := range []struct{ stamp, want api.Stamp }{
			{st(0, 0), st(1, core)}, {st(0, 7), st(1, core)}, {st(1, 0), st(2, core)}, {st(6, 3), st(7, core)}, {st(most-1, 7), st(most, core)},
		} {
			b := makeBook(t, 8)
			if got := b.add(by(core, 5), seen.stamp); got != seen.want {
				t.Errorf("core %d, seen %v: %v, want %v", core, seen.stamp, got, seen.want)
			}
			b.check()
			wantRecords(t, "Core", b.l.Core(core), []api.Record{{Stamp: seen.want, Call: by(core, 5)}})
			wantRecords(t, "Merge", b.l.Merge(), []api.Record{{Stamp: seen.want, Call: by(core, 5)}})
			wantLast(t, b.l, core, seen.want)
		}
	}
}

// P17.1: Adds of several cores, step by step.
func TestAdds(t *testing.T) {
	l := makeLog(t, 3)
	add := func(core, num int, seen, want api.Stamp) {
		t.Helper()
		if got, e := l.Add(by(core, num), seen); got != want || e != api.OK {
			t.Fatalf("call %d: %v, error %d, want %v", num, got, e, want)
		}
		wantLast(t, l, core, want)
	}
	add(2, 10, st(0, 0), st(1, 2))
	add(2, 11, st(0, 0), st(2, 2))
	add(0, 12, st(0, 0), st(1, 0))
	add(0, 13, st(2, 2), st(3, 0))
	add(1, 14, st(1, 0), st(2, 1))
	add(2, 15, st(2, 1), st(3, 2))
	add(1, 16, st(3, 0), st(4, 1))
	add(1, 17, st(1, 0), st(5, 1))
	add(0, 18, st(5, 1), st(6, 0))
	wantTold(t, "Core(0)", l.Core(0), "1/0:12 3/0:13 6/0:18")
	wantTold(t, "Core(1)", l.Core(1), "2/1:14 4/1:16 5/1:17")
	wantTold(t, "Core(2)", l.Core(2), "1/2:10 2/2:11 3/2:15")
	wantTold(t, "Merge", l.Merge(), "1/0:12 1/2:10 2/1:14 2/2:11 3/0:13 3/2:15 4/1:16 5/1:17 6/0:18")
}

// P17.1: a stamp may be seen that nobody of this log has: of its own core, of a core that it has not, or far above.
func TestSeenFromElsewhere(t *testing.T) {
	b := makeBook(t, 2)
	for at, c := range []struct {
		core       int
		seen, want api.Stamp
	}{
		{0, st(40, 7), st(41, 0)}, {1, st(41, 1), st(42, 1)}, {0, st(3, 5), st(42, 0)}, {0, st(42, 0), st(43, 0)},
		{0, st(1000, 0), st(1001, 0)}, {1, st(1<<32, 4), st(1<<32+1, 1)}, {1, st(1<<32, 4), st(1<<32+2, 1)},
	} {
		if got := b.add(by(c.core, at), c.seen); got != c.want {
			t.Errorf("row %d: %v, want %v", at, got, c.want)
		}
		b.check()
	}
}

// P17.1: the records hold the calls whole, of every kind.
func TestRecordsHoldCalls(t *testing.T) {
	b := makeBook(t, 4)
	for kind := range 17 {
		b.add(full(kind, kind%4, kind), api.Stamp{})
		b.add(api.Call{Kind: kind, Core: (kind + 1) % 4, Fd: -1, Off: math.MinInt, Num: math.MaxInt}, api.Stamp{})
		b.check()
	}
}

// P17.1: a call that no file system would take is logged as it is; equal calls are logged each.
func TestCallsAreNotLookedInto(t *testing.T) {
	b := makeBook(t, 1)
	for _, c := range []api.Call{{}, {}, {Kind: api.CallWrite, Fd: 99, Off: -5, Data: string(make([]byte, 5000))}, {Kind: api.CallRename, Path: "no path", Path2: "\xff/"}} {
		b.add(c, api.Stamp{})
		b.add(c, api.Stamp{})
	}
	b.check()
}

// P17.1: asking changes nothing.
func TestAskingChangesNothing(t *testing.T) {
	b := makeBook(t, 3)
	for num := range 12 {
		b.add(by(num%3, num), st(num/2, num%2))
		for range 3 {
			b.check()
		}
	}
}

// R5: two Logs have nothing in common.
func TestLogsBeside(t *testing.T) {
	one, two := makeBook(t, 3), makeBook(t, 3)
	for num := range 10 {
		one.add(by(num%3, num), st(num, 0))
		two.check()
		two.add(by(num%2, 100+num), st(0, 0))
		one.check()
	}
	one.drop(st(most, 7))
	two.check()
}

// P17.1, P17.2: at 2^40 the next stamp is layer 16's 2^40 + 1, which is given again and may not be seen; the row stays.
func TestLastCounts(t *testing.T) {
	b := makeBook(t, 3)
	b.add(by(1, 1), st(most-2, 0))
	b.add(by(1, 2), st(most-1, 2))
	wantLast(t, b.l, 1, st(most, 1))
	b.add(by(0, 3), st(most, 1))
	b.add(by(0, 4), st(most, 1))
	b.add(by(2, 5), st(most, 2))
	b.add(by(0, 6), st(0, 0))
	wantLast(t, b.l, 0, st(most+1, 0))
	b.refuse(by(1, 7), st(most+1, 0), api.ErrOplogForm)
	b.check()
	wantTold(t, "Merge", b.l.Merge(), "1099511627775/1:1 1099511627776/1:2 1099511627777/0:3 1099511627777/0:4 1099511627777/0:6 1099511627777/2:5")
	if gone := b.drop(st(most+1, 0)); gone != 5 {
		t.Errorf("%d went", gone)
	}
	b.check()
	b.add(by(0, 8), st(5, 5))
	b.check()
}
