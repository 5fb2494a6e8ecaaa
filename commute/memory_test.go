package commute_test

import (
	"fmt"
	"slices"
	"sync"
	"testing"

	"concourse/api"
	"concourse/commute"
)

// roomyList gives a list with spare room that has these in it.
func roomyList[T any](of []T, spare ...T) []T {
	return append(append(make([]T, 0, len(of)+len(spare)), of...), spare...)[:len(of)]
}

// roomy gives a state of new memory whose lists have spare room, with something in it.
func roomy(s api.State) api.State {
	s.Inodes = roomyList(s.Inodes, api.Inode{Num: 9999, Dir: true, Data: "spare"}, api.Inode{Num: 9998})
	for at := range s.Inodes {
		s.Inodes[at].Entries = roomyList(s.Inodes[at].Entries, api.Entry{Name: "spare", Num: 98}, api.Entry{Name: "room", Num: 97})
	}
	s.Open = roomyList(s.Open, api.Desc{Core: 7, Fd: 7, Num: 7}, api.Desc{Num: 8})
	s.Made = roomyList(s.Made, 71, 72)
	return s
}

// allOf is a list as a text, with what stands in its spare room.
func allOf[T any](of []T) string {
	return fmt.Sprintf("%+v", of[:cap(of)])
}

// allOfState is a state as a text, with what stands in its spare room.
func allOfState(s api.State) string {
	text := allOf(s.Inodes) + allOf(s.Open) + allOf(s.Made)
	for _, x := range s.Inodes {
		text += allOf(x.Entries)
	}
	return text
}

// asked is what Commute and Apart answer, either way round.
func asked(s api.State, a, b api.Call) string {
	return fmt.Sprint(commute.Commute(s, a, b), commute.Apart(s, a, b), commute.Commute(s, b, a), commute.Apart(s, b, a))
}

// R4, R5: what is handed in stays as it was, its spare room too, and that room hangs on no answer; asked again, the
// answer is the same, whatever was asked between.
func TestHandedInStays(t *testing.T) {
	states := []api.State{aState(t, 2), aState(t, 3), {}}
	for _, s := range bad(t) {
		states = append(states, s)
	}
	for at, plain := range states {
		s := roomy(plain)
		before := allOfState(s)
		first := map[[2]int]string{}
		for round := range 2 {
			for i, a := range allCalls() {
				for k, b := range allCalls() {
					if at > 2 && i != k {
						continue
					}
					got := asked(s, a, by(1, b))
					if round == 0 {
						first[[2]int{i, k}] = got
					}
					if got != first[[2]int{i, k}] || got != asked(plain, a, by(1, b)) {
						t.Errorf("%+v, %+v: %s, was %s", a, b, got, first[[2]int{i, k}])
					}
				}
			}
		}
		if allOfState(s) != before {
			t.Errorf("what was handed in is changed:\n%s\nwas\n%s", allOfState(s), before)
		}
	}
}

// R4: an empty list and nil are one.
func TestEmptyAndNil(t *testing.T) {
	s := newState(t, 2, create("/a"), mkdir("/e"))
	other := roomy(s)
	other.Open = []api.Desc{}
	for at := range other.Inodes {
		if len(other.Inodes[at].Entries) == 0 {
			other.Inodes[at].Entries = []api.Entry{}
		}
	}
	s.Open, s.Inodes[1].Entries = nil, nil
	for _, a := range allCalls() {
		for _, b := range append(allCalls(), list("/e"), rmdir("/e"), opening("/a")) {
			if asked(s, a, by(1, b)) != asked(other, a, by(1, b)) {
				t.Errorf("%+v, %+v", a, b)
			}
		}
	}
	wantBoth(t, other, list("/e"), by(1, list("/e")))
	wantBoth(t, s, list("/e"), by(1, list("/e")))
}

// R5: nothing is kept of a state that was handed in.
func TestNothingIsKept(t *testing.T) {
	s := aState(t, 2)
	a, b := stat("/e"), by(1, create("/d/n"))
	wantBoth(t, s, a, b)
	spoiled := roomy(s)
	wantBoth(t, spoiled, a, b)
	spoiled.Made[0] = 33
	spoiled.Inodes[0].Entries[0].Name = "zz"
	wantNeither(t, "spoiled", spoiled, a, b)
	wantBoth(t, s, a, b)
	renamed := roomy(s)
	at := slices.IndexFunc(renamed.Inodes[0].Entries, func(e api.Entry) bool { return e.Name == "e" })
	renamed.Inodes[0].Entries[at].Name = "f"
	wantPoints(t, s, list("/e"), create("/e/n"), "1")
	wantPoints(t, renamed, list("/e"), create("/e/n"), "")
	wantPoints(t, renamed, list("/f"), create("/f/n"), "1")
}

// R5: from several goroutines at one time.
func TestCallsAtOneTime(t *testing.T) {
	s := aState(t, 2)
	calls := allCalls()
	want := map[int]string{}
	for at, c := range calls {
		want[at] = asked(s, c, by(1, calls[(at+9)%len(calls)]))
	}
	var group sync.WaitGroup
	for range 8 {
		group.Go(func() {
			for at, c := range calls {
				if asked(s, c, by(1, calls[(at+9)%len(calls)])) != want[at] {
					t.Errorf("%+v: another answer", c)
				}
			}
		})
	}
	group.Wait()
}

// R1: the greatest state that may be, and the longest texts, are asked about in little time.
func TestGreatest(t *testing.T) {
	s := api.State{Inodes: []api.Inode{{Num: 1, Dir: true}}, Made: slices.Repeat([]int{32}, 8)}
	at := 0
	for num := 2; num < 258; num++ {
		for len(s.Inodes[at].Entries) == 8 {
			at++
		}
		s.Inodes[at].Entries = append(s.Inodes[at].Entries, api.Entry{Name: string(rune('a' + len(s.Inodes[at].Entries))), Num: num})
		s.Inodes = append(s.Inodes, api.Inode{Num: num, Dir: num < 130})
		if num >= 130 {
			s.Inodes[num-1].Data = fill('x', 256)
		}
	}
	wantBoth(t, s, list("/a/b"), by(7, list("/h/h")))
	wantBoth(t, s, rename("/a/a/a", "/a/a/z"), by(7, rename("/b/a/a", "/b/b/z")))
	long := fill('a', 1<<20)
	for kind := range api.CallFsync {
		wantBoth(t, s, api.Call{Kind: kind, Path: "/" + long, Path2: long, Data: long}, by(7, stat("/a")))
	}
}
