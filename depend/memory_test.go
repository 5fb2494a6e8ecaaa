package depend_test

import (
	"fmt"
	"slices"
	"testing"
	"unsafe"

	"concourse/api"
	"concourse/depend"
)

// roomyList gives a list with spare room that has these in it.
func roomyList[T any](of []T, spare ...T) []T {
	return append(append(make([]T, 0, len(of)+len(spare)), of...), spare...)[:len(of)]
}

// allOf is a list as a text, with what stands in its spare room.
func allOf[T any](of []T) string {
	return fmt.Sprintf("%+v", of[:cap(of)])
}

// roomy gives a state whose lists have spare room, with something in it.
func roomy(s api.State) api.State {
	s = deepCopy(s)
	for at := range s.Inodes {
		s.Inodes[at].Entries = roomyList(s.Inodes[at].Entries, api.Entry{Name: "spare", Num: 98}, api.Entry{Name: "room", Num: 97})
	}
	s.Inodes = roomyList(s.Inodes, api.Inode{Num: 99, Dir: true, Data: "spare"}, api.Inode{Num: 98})
	s.Open = roomyList(s.Open, api.Desc{Core: 7, Fd: 7, Num: 7}, api.Desc{Num: 8})
	s.Made = roomyList(s.Made, 71, 72)
	return s
}

// allOfState is a state as a text, with what stands in its spare room.
func allOfState(s api.State) string {
	text := allOf(s.Inodes) + allOf(s.Open) + allOf(s.Made)
	for _, x := range s.Inodes {
		text += allOf(x.Entries)
	}
	return text
}

// R4: what is handed in is not changed, its spare room neither, and that room hangs on no answer.
func TestHandedInStays(t *testing.T) {
	d := deep(t)
	d.ok(opening("/a"))
	states := append([]api.State{d.s}, bad(t)["made too few"], api.State{})
	for _, plain := range states {
		s := roomy(plain)
		cs := roomyList(okAtDeep(), create("/spare"), unlink("/room"))
		in := roomyList(part("x-x-x-x-x-"), true, true)
		want := roomyList([]int{9, 3, 3, -1}, 7, 8)
		before := allOfState(s) + allOf(cs) + allOf(in) + allOf(want)
		for _, c := range cs {
			keys := roomyList(depend.Keys(s, c), api.Key{Num: 1}, api.Key{Num: 2, Name: "."})
			other := roomyList(keysOf(300, "", 1, ".", 1, "."), api.Key{Num: -1})
			was := allOf(keys) + allOf(other)
			if depend.Touch(keys, other) || depend.Touch(other, keys) || allOf(keys)+allOf(other) != was {
				t.Errorf("%+v: Touch: %s, it was %s", c, allOf(keys)+allOf(other), was)
			}
			if !slices.Equal(keys, depend.Keys(plain, c)) {
				t.Errorf("%+v: the spare room is told: %s", c, told(keys))
			}
		}
		closed := depend.Closed(s, cs, in)
		closure := depend.Closure(s, cs, want)
		if got := allOfState(s) + allOf(cs) + allOf(in) + allOf(want); got != before {
			t.Errorf("what was handed in is changed:\n%s\nwas\n%s", got, before)
		}
		if closed != depend.Closed(plain, okAtDeep(), part("x-x-x-x-x-")) || !slices.Equal(closure, depend.Closure(plain, okAtDeep(), []int{9, 3, 3, -1})) {
			t.Error("the spare room is told")
		}
	}
}

// R4: two answers that are held at a time share nothing, their spare room neither.
func TestAnswersAreNew(t *testing.T) {
	d := deep(t)
	d.ok(opening("/a"))
	for _, c := range okAtDeep() {
		one, two := depend.Keys(d.s, c), depend.Keys(d.s, c)
		want := told(two)
		for at := range one[:cap(one)] {
			one[:cap(one)][at] = api.Key{Num: -99, Name: "spoiled"}
		}
		if told(two) != want || told(depend.Keys(d.s, c)) != want {
			t.Errorf("%+v: two answers share memory", c)
		}
	}
	for _, s := range []api.State{d.s, {}} {
		cs := okAtDeep()
		one, two := depend.Closure(s, cs, []int{5}), depend.Closure(s, cs, []int{5})
		want := drawn(two)
		for at := range one[:cap(one)] {
			one[:cap(one)][at] = !one[:cap(one)][at]
		}
		if drawn(two) != want || drawn(depend.Closure(s, cs, []int{5})) != want {
			t.Error("two Closures share memory")
		}
	}
}

// meet tells whether a text lies on bytes of another.
func meet(a, b string) bool {
	if a == "" || b == "" {
		return false
	}
	from, other := uintptr(unsafe.Pointer(unsafe.StringData(a))), uintptr(unsafe.Pointer(unsafe.StringData(b)))
	return from < other+uintptr(len(b)) && other < from+uintptr(len(a))
}

// R4: the names of keys are no pieces of the texts that were handed in.
func TestNamesAreNew(t *testing.T) {
	d := deep(t)
	d.ok(opening("/a"), by(1, create("/.x")), mkdir("/5"), create("/5/5"))
	for _, c := range append(okAtDeep(), rename("/.x", "/5/.y"), unlink("/5/5"), link("/.x", "/5/3")) {
		c.Path, c.Path2, c.Data = string([]byte(c.Path)), string([]byte(c.Path2)), string([]byte(c.Data))
		given := []string{c.Path, c.Path2, c.Data}
		for _, x := range d.s.Inodes {
			for _, e := range x.Entries {
				given = append(given, e.Name)
			}
		}
		for _, k := range depend.Keys(d.s, c) {
			if slices.ContainsFunc(given, func(text string) bool { return meet(k.Name, text) }) {
				t.Errorf("%+v: %s lies on a text that was handed in", c, told([]api.Key{k}))
			}
		}
	}
}

// R4, R5: what was answered stays, and nothing is kept, whatever becomes of what was handed in.
func TestAnswersStay(t *testing.T) {
	d := deep(t)
	d.ok(opening("/a"))
	cs := okAtDeep()
	keys, in, want := depend.Keys(d.s, cs[6]), part("xxxxxxxxxx"), []int{2}
	closure := depend.Closure(d.s, cs, want)
	wasKeys, wasClosure := told(keys), drawn(closure)
	if wasKeys != "-1: 1:. 2:. 3: 10:. 10:/1" || wasClosure != "xxx-------" || !depend.Closed(d.s, cs, in) {
		t.Errorf("%s, %s", wasKeys, wasClosure)
	}
	for at := range cs {
		cs[at] = api.Call{}
	}
	in[0], want[0] = false, 0
	d.s.Inodes[0], d.s.Made[0] = api.Inode{}, 9
	if told(keys) != wasKeys || drawn(closure) != wasClosure {
		t.Error("what was answered is changed")
	}
	if len(depend.Keys(d.s, create("/x"))) != 0 || depend.Closed(d.s, cs, in) {
		t.Error("what was handed in is kept")
	}
}
