package layout_test

import (
	"bytes"
	"slices"
	"strings"
	"sync"
	"testing"
	"unsafe"

	"concourse/api"
	"concourse/layout"
	"concourse/model"
)

// deepCopy gives a state that shares no list with s.
func deepCopy(s api.State) api.State {
	s.Inodes, s.Open, s.Made = slices.Clone(s.Inodes), slices.Clone(s.Open), slices.Clone(s.Made)
	for at := range s.Inodes {
		s.Inodes[at].Entries = slices.Clone(s.Inodes[at].Entries)
	}
	return s
}

// roomy gives a state whose lists have spare room, with something in it.
func roomy(s api.State) api.State {
	x := api.Inode{Num: 99, Dir: true, Data: "spare", Entries: []api.Entry{{Name: "spare", Num: 99}}}
	s = deepCopy(s)
	for at := range s.Inodes {
		own := &s.Inodes[at].Entries
		*own = append(*own, api.Entry{Name: "spare", Num: 98}, api.Entry{Name: "room", Num: 97}, api.Entry{})[:len(*own)]
	}
	s.Inodes = append(s.Inodes, x, x, x)[:len(s.Inodes)]
	s.Open = append(s.Open, api.Desc{Core: 7, Fd: 7, Num: 7}, api.Desc{Num: 8}, api.Desc{})[:len(s.Open)]
	s.Made = append(s.Made, 71, 72, 73)[:len(s.Made)]
	return s
}

// showAll is a state as a text, with what stands in its spare room.
func showAll(s api.State) string {
	s.Inodes, s.Open, s.Made = slices.Clone(s.Inodes[:cap(s.Inodes)]), s.Open[:cap(s.Open)], s.Made[:cap(s.Made)]
	for at, x := range s.Inodes {
		s.Inodes[at].Entries = x.Entries[:cap(x.Entries)]
	}
	return show(s)
}

// R4: a state that is handed in is not changed, its spare room neither, nor is that room told.
func TestHandedInStays(t *testing.T) {
	root, _ := model.New(2)
	unnamed := api.State{Made: []int{2}, Open: []api.Desc{{Num: 2}, {Fd: 1, Num: 10}}, Inodes: []api.Inode{{Num: 1, Dir: true}, {Num: 2}, {Num: 10}}}
	for _, s := range []api.State{aState(), root, unnamed, {}, turned(func(s *api.State) { s.Made[0] = 1 })} {
		one := roomy(s)
		before := showAll(one)
		b, e := layout.Put(one)
		size := layout.Size(one)
		if showAll(one) != before {
			t.Errorf("what was handed in is changed:\n%s\nwas\n%s", showAll(one), before)
		}
		want, wantE := layout.Put(s)
		if b != want || e != wantE || size != len(want) {
			t.Errorf("%q, error %d, %d bytes, want %q", b, e, size, want)
		}
	}
}

// R4: bytes that are handed in are not changed, those around them neither; and they are not kept.
func TestBytesStay(t *testing.T) {
	b := summed(plainBody(kept(aState())))
	memory := []byte("ahead" + b + "behind")
	was := bytes.Clone(memory)
	s, e := layout.Get(unsafe.String(&memory[5], len(b)))
	if !bytes.Equal(memory, was) || e != api.OK {
		t.Errorf("error %d, or the bytes are changed", e)
	}
	clear(memory)
	if show(s) != show(kept(aState())) {
		t.Errorf("the state has gone with the bytes: %s", show(s))
	}
}

// meet tells whether a text lies on bytes of another.
func meet(a, b string) bool {
	if a == "" || b == "" {
		return false
	}
	from, other := uintptr(unsafe.Pointer(unsafe.StringData(a))), uintptr(unsafe.Pointer(unsafe.StringData(b)))
	return from < other+uintptr(len(b)) && other < from+uintptr(len(a))
}

// texts are all texts of a state.
func texts(s api.State) []string {
	var all []string
	for _, x := range s.Inodes {
		all = append(all, x.Data)
		for _, e := range x.Entries {
			all = append(all, e.Name)
		}
	}
	return all
}

// wantApart fails if a text lies on another.
func wantApart(t *testing.T, all []string) {
	t.Helper()
	for at, one := range all {
		for _, two := range all[at+1:] {
			if meet(one, two) {
				t.Errorf("%q and %q share memory", strings.Clone(one), strings.Clone(two))
			}
		}
	}
}

// someBytes is a state whose texts are all of two bytes or more, since Go may keep those of one in one place.
func someBytes() api.State {
	s := aState()
	for at, x := range s.Inodes {
		for place, e := range x.Entries {
			s.Inodes[at].Entries[place].Name = strings.Repeat(e.Name, 3)
		}
	}
	s.Inodes[3].Data = "more"
	return s
}

// R4: texts that are answered lie on no other.
func TestTextsAreNew(t *testing.T) {
	s := someBytes()
	one, _ := layout.Put(s)
	two, _ := layout.Put(s)
	for _, own := range texts(s) {
		wantApart(t, []string{one, two, own})
	}
	first, _ := layout.Get(one)
	second, _ := layout.Get(one)
	wantApart(t, append(append(texts(first), texts(second)...), one, two))
}

// fill writes over all of a list, its spare room too.
func fill[T any](all []T, with T) {
	all = all[:cap(all)]
	for at := range all {
		all[at] = with
	}
}

// R4: no list of an answer of Get shares memory with another one of it, or of another answer.
func TestListsAreApart(t *testing.T) {
	s := kept(someBytes())
	b, _ := layout.Put(s)
	want := show(s)
	one, _ := layout.Get(b)
	two, _ := layout.Get(b)
	for at := range one.Inodes {
		fill(one.Inodes[at].Entries, api.Entry{Name: "over", Num: 77})
		for other := at + 1; other < len(one.Inodes); other++ {
			if got := one.Inodes[other].Entries; !slices.Equal(got, s.Inodes[other].Entries) {
				t.Errorf("inode %d's entries: %v", other, got)
			}
		}
	}
	fill(one.Inodes, api.Inode{Num: 78})
	fill(one.Made, 79)
	if show(two) != want {
		t.Errorf("another answer has become %s", show(two))
	}
	wantGet(t, b, s, api.OK)
}

// R5: the calls answer the same again, and from several goroutines at one time.
func TestCallsAtOneTime(t *testing.T) {
	s := aState()
	b, _ := layout.Put(s)
	want := show(kept(s))
	var group sync.WaitGroup
	for range 8 {
		group.Go(func() {
			for range 200 {
				got, e := layout.Put(s)
				back, e2 := layout.Get(b)
				_, e3 := layout.Get(b[1:])
				if got != b || e != api.OK || show(back) != want || e2 != api.OK || e3 != api.ErrLayoutSum || layout.Size(s) != len(b) {
					t.Error("another answer")
				}
			}
		})
	}
	group.Wait()
}
