package oplog_test

import (
	"slices"
	"testing"

	"concourse/api"
	"concourse/oplog"
	"concourse/stamp"
)

// P17.1: Merge of one log alone is that log, whichever core's it is.
func TestMergeOfOneLog(t *testing.T) {
	for cores := 1; cores <= 8; cores++ {
		for core := range cores {
			b := makeBook(t, cores)
			for num := range 5 {
				b.add(by(core, num), st(num*num, 0))
			}
			b.check()
			wantRecords(t, "Merge", b.l.Merge(), b.l.Core(core))
		}
	}
}

// P17.1: stamps of one Count stand by core, in whatever row they were added.
func TestMergeOfOneCount(t *testing.T) {
	for _, cores := range [][]int{{0, 1, 2, 3}, {3, 2, 1, 0}, {2, 0, 3, 1}, {1, 3}, {3, 1}} {
		b := makeBook(t, 4)
		for turn := range 3 {
			for _, core := range cores {
				b.add(by(core, 10*turn+core), api.Stamp{})
			}
		}
		b.check()
		rising := slices.Sorted(slices.Values(cores))
		for at, r := range b.l.Merge() {
			turn, core := at/len(cores), rising[at%len(cores)]
			if r.Stamp != st(turn+1, core) || r.Call != by(core, 10*turn+core) {
				t.Fatalf("place %d: %+v", at, r)
			}
		}
	}
}

// P17.1: logs one behind the other, in either row, and one within a gap of the other.
func TestMergeOfLogsApart(t *testing.T) {
	for _, c := range []struct {
		ahead, behind int
		want          string
	}{{0, 1, "1/0:1 2/0:2 11/1:3 12/1:4"}, {1, 0, "1/1:1 2/1:2 11/0:3 12/0:4"}} {
		b := makeBook(t, 2)
		b.add(by(c.ahead, 1), api.Stamp{})
		b.add(by(c.ahead, 2), api.Stamp{})
		b.add(by(c.behind, 3), st(10, 0))
		b.add(by(c.behind, 4), api.Stamp{})
		b.check()
		wantTold(t, "Merge", b.l.Merge(), c.want)
	}
	b := makeBook(t, 2)
	b.add(by(1, 1), api.Stamp{})
	b.add(by(1, 2), st(20, 0))
	b.add(by(0, 3), st(5, 0))
	b.add(by(0, 4), api.Stamp{})
	b.check()
	wantTold(t, "Merge", b.l.Merge(), "1/1:1 6/0:3 7/0:4 21/1:2")
}

// P17.2: in Merge each core's calls stand in the row in which they were added, and one that has seen
// another's stamp behind it: by the places of the calls alone.
func TestRowsInMerge(t *testing.T) {
	for seed := range 40 {
		g := row(seed)
		cores := 1 + g.below(8)
		l := makeLog(t, cores)
		var stamps []api.Stamp
		var saw [][2]int // a call's number, and that of the call whose stamp it has seen
		for num := range 200 {
			seen := api.Stamp{}
			if num > 0 && g.below(2) == 0 {
				other := g.below(num)
				seen, saw = stamps[other], append(saw, [2]int{num, other})
			}
			s, e := l.Add(by(g.below(cores), num), seen)
			if e != api.OK {
				t.Fatalf("call %d: error %d", num, e)
			}
			stamps = append(stamps, s)
		}
		wantRows(t, l, saw)
	}
}

// wantRows fails unless in Merge the numbers of each core's calls rise, and each call stands behind the one that it saw.
func wantRows(t *testing.T, l *oplog.Log, saw [][2]int) {
	t.Helper()
	all := l.Merge()
	places := map[int]int{}
	newest := map[int]int{}
	for at, r := range all {
		places[r.Call.Num] = at
		if before, ok := newest[r.Call.Core]; ok && before >= r.Call.Num {
			t.Fatalf("core %d: call %d stands ahead of %d", r.Call.Core, before, r.Call.Num)
		}
		newest[r.Call.Core] = r.Call.Num
		if at > 0 && !stamp.Less(all[at-1].Stamp, r.Stamp) {
			t.Fatalf("%v stands ahead of %v", all[at-1].Stamp, r.Stamp)
		}
	}
	if len(places) != len(all) || len(all) != 200 {
		t.Fatalf("%d records, of %d calls", len(all), len(places))
	}
	for _, s := range saw {
		if places[s[0]] <= places[s[1]] {
			t.Fatalf("call %d has seen %d, and stands at %d, ahead of %d", s[0], s[1], places[s[0]], places[s[1]])
		}
	}
}

// P17.2: a chain of calls, each of another core that has seen the one before, stands as it was made.
func TestChains(t *testing.T) {
	for _, step := range []int{1, 3, 5, 7} {
		b := makeBook(t, 8)
		seen := api.Stamp{}
		for num := range 100 {
			seen = b.add(by(num*step%8, num), seen)
		}
		b.check()
		for at, r := range b.l.Merge() {
			if r.Call.Num != at || r.Stamp.Count != at+1 {
				t.Fatalf("place %d: %+v", at, r)
			}
		}
	}
}

// P17.1, P17.2: any row of Adds, good and wrong, Drops and askings.
func TestAnyRow(t *testing.T) {
	for seed := range 60 {
		g := row(1000 + seed)
		b := makeBook(t, 1+g.below(8))
		for num := range 150 {
			core := g.below(len(b.last))
			switch g.below(12) {
			case 0:
				b.drop(st(g.below(30), g.below(8)))
			case 1:
				b.drop(b.last[core])
			case 2:
				b.refuse(api.Call{Kind: wrongKinds()[g.below(len(wrongKinds()))], Core: core}, b.last[0], api.ErrOplogForm)
			case 3:
				b.refuse(by(core, num), wrongStamps()[g.below(len(wrongStamps()))], api.ErrOplogForm)
			case 4, 5, 6:
				b.add(full(g.below(17), core, num), b.last[g.below(len(b.last))])
			case 7:
				b.add(full(g.below(17), core, num), st(g.below(40), g.below(8)))
			default:
				b.add(full(g.below(17), core, num), api.Stamp{})
			}
			if g.below(5) == 0 {
				b.check()
			}
		}
		b.check()
	}
}
