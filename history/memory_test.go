package history_test

import (
	"fmt"
	"slices"
	"sync"
	"testing"

	"concourse/api"
	"concourse/history"
)

// roomyList gives a list with spare room that has these in it.
func roomyList[T any](of []T, spare ...T) []T {
	return append(append(make([]T, 0, len(of)+len(spare)), of...), spare...)[:len(of)]
}

// roomy gives a state of new memory whose lists have spare room, with something in it.
func roomy(s api.State) api.State {
	s.Inodes = roomyList(s.Inodes, api.Inode{Num: 9999, Dir: true, Data: "spare"}, api.Inode{Num: 9998})
	for at := range s.Inodes {
		s.Inodes[at].Entries = roomyList(s.Inodes[at].Entries, api.Entry{Name: "spare", Num: 98}, api.Entry{Name: "room", Num: 97})
	}
	s.Open = roomyList(s.Open, api.Desc{Core: 7, Fd: 7, Num: 7}, api.Desc{Num: 8})
	s.Made = roomyList(s.Made, 71, 72)
	return s
}

// roomyOps gives operations of new memory whose lists have spare room.
func roomyOps(ops []api.Op) []api.Op {
	own := roomyList(ops, op(create("/spare"), 0, 0, 1), api.Op{})
	for at := range own {
		own[at].Result.Names = roomyList(own[at].Result.Names, "spare", "room")
	}
	return own
}

// allOf is a list as a text, with what stands in its spare room.
func allOf[T any](of []T) string {
	return fmt.Sprintf("%+v", of[:cap(of)])
}

// allOfState is a state as a text, with what stands in its spare room.
func allOfState(s api.State) string {
	text := allOf(s.Inodes) + allOf(s.Open) + allOf(s.Made)
	for _, x := range s.Inodes {
		text += allOf(x.Entries)
	}
	return text
}

// allOfOps is operations as a text, with what stands in their spare room.
func allOfOps(ops []api.Op) string {
	text := allOf(ops)
	for _, o := range ops {
		text += allOf(o.Result.Names)
	}
	return text
}

// question is what Legal and Ends are asked.
type question struct {
	s, last api.State
	ops     []api.Op
}

// asked is what they answer.
func (q question) asked() string {
	legal, one := history.Legal(q.s, q.ops)
	ends, two := history.Ends(q.s, q.ops, q.last)
	var may []bool
	for _, o := range q.ops {
		may = append(may, history.May(o))
	}
	return fmt.Sprint(legal, one, ends, two, may)
}

// questions are some of all kinds, of new memory.
func questions(t *testing.T) []question {
	t.Helper()
	s := aState(t)
	var all []question
	add := func(s api.State, last api.State, ops ...api.Op) {
		all = append(all, question{s: roomy(s), last: roomy(last), ops: roomyOps(ops)})
	}
	lists := []api.Op{
		answered(list("/"), api.Result{Names: []string{"a", "b", "d", "e"}}, 0, 9), answered(list("/d"), api.Result{Names: []string{"a", "f"}}, 0, 9),
		op(create("/n"), 0, 1, 8), op(mkdir("/m"), 0, 1, 8), going(by(1, create("/d/n")), 2), going(rename("/d", "/e/d"), 3), answered(by(2, opening("/b")), api.Result{Fd: 3}, 2, 7),
	}
	for _, last := range []api.State{do(t, s, mkdir("/m"), create("/n")), do(t, s, create("/n"), mkdir("/m"), rename("/d", "/e/d")), s} {
		opened := do(t, last, by(2, opening("/b")))
		opened.Open[len(opened.Open)-1].Fd = 3
		add(s, last, lists[:6]...)
		add(s, opened, lists...)
		reversed := slices.Clone(lists)
		slices.Reverse(reversed)
		add(s, opened, reversed...)
	}
	lists[0].Result.Names = []string{"a", "b", "e", "d"}
	add(s, s, lists...)
	for _, none := range bad(t) {
		add(none, s, lists...)
		add(s, none, lists...)
	}
	add(s, s, wrongOps()...)
	add(s, s, slices.Repeat(lists, 2)...)
	return all
}

// R4, R5: what is handed in stays as it was, its spare room too, and that room hangs on no answer; asked again, the answer
// is the same, whatever was asked between.
func TestHandedInStays(t *testing.T) {
	all := questions(t)
	var first []string
	for round := range 3 {
		for at, q := range all {
			before := allOfState(q.s) + allOfState(q.last) + allOfOps(q.ops)
			answer := q.asked()
			if round == 0 {
				first = append(first, answer)
			}
			if answer != first[at] {
				t.Errorf("question %d: %s, was %s", at, answer, first[at])
			}
			if after := allOfState(q.s) + allOfState(q.last) + allOfOps(q.ops); after != before {
				t.Errorf("question %d: what was handed in is\n%s\nwas\n%s", at, after, before)
			}
		}
	}
	if slices.Min(first) == slices.Max(first) {
		t.Errorf("all answers are alike: %s", first[0])
	}
}

// R5: plain functions may be called from several goroutines at one time.
func TestAskedAtOneTime(t *testing.T) {
	all := questions(t)
	var want []string
	for _, q := range all {
		want = append(want, q.asked())
	}
	var wait sync.WaitGroup
	for from := range 8 {
		wait.Go(func() {
			for at := range all {
				place := (at + from*5) % len(all)
				if got := all[place].asked(); got != want[place] {
					t.Errorf("question %d: %s, was %s", place, got, want[place])
				}
			}
		})
	}
	wait.Wait()
}

// R4: an answer hangs on what is handed in, not on what stood there when it was asked before.
func TestTurnedBetween(t *testing.T) {
	s := newState(t, 2, create("/a"))
	ops := []api.Op{op(stat("/a"), 0, 0, 1), op(by(1, create("/b")), 0, 0, 1)}
	for range 2 {
		wantLegal(t, true, s, ops...)
		ops[0].Result.Code = api.ENOENT
		wantLegal(t, false, s, ops...)
		s.Inodes[0].Entries[0].Name = "c"
		wantLegal(t, true, s, ops...)
		ops[0].Result.Code = 0
		wantLegal(t, false, s, ops...)
		s.Inodes[0].Entries[0].Name = "a"
	}
}
