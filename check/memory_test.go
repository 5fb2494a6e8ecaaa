package check_test

import (
	"bytes"
	"fmt"
	"slices"
	"strings"
	"sync"
	"testing"
	"unsafe"

	"concourse/api"
	"concourse/check"
)

// deepCopy gives a state that shares no list with s.
func deepCopy(s api.State) api.State {
	s.Inodes, s.Open, s.Made = slices.Clone(s.Inodes), slices.Clone(s.Open), slices.Clone(s.Made)
	for at := range s.Inodes {
		s.Inodes[at].Entries = slices.Clone(s.Inodes[at].Entries)
	}
	return s
}

// roomy gives a state whose lists have spare room, with something in it.
func roomy(s api.State) api.State {
	x := api.Inode{Num: 99, Dir: true, Data: "spare", Entries: []api.Entry{{Name: "spare", Num: 99}}}
	s = deepCopy(s)
	for at := range s.Inodes {
		own := &s.Inodes[at].Entries
		*own = append(*own, api.Entry{Name: "spare", Num: 98}, api.Entry{Name: "room", Num: 97}, api.Entry{})[:len(*own)]
	}
	s.Inodes = append(s.Inodes, x, x, x)[:len(s.Inodes)]
	s.Open = append(s.Open, api.Desc{Core: 7, Fd: 7, Num: 7}, api.Desc{Num: 8}, api.Desc{})[:len(s.Open)]
	s.Made = append(s.Made, 71, 72, 73)[:len(s.Made)]
	return s
}

// showAll is a state as a text, with what stands in its spare room.
func showAll(s api.State) string {
	s.Inodes, s.Open, s.Made = slices.Clone(s.Inodes[:cap(s.Inodes)]), s.Open[:cap(s.Open)], s.Made[:cap(s.Made)]
	for at, x := range s.Inodes {
		s.Inodes[at].Entries = x.Entries[:cap(x.Entries)]
	}
	return fmt.Sprintf("%+v", s)
}

// R4: a state that is handed in is not changed, its spare room neither, nor is that room looked at.
func TestHandedInStays(t *testing.T) {
	g := row(44)
	states := []api.State{aState(), {}, withNames(oneBucket(1, 6)), chain(9)}
	for range 2000 {
		states = append(states, g.drawn())
	}
	for _, s := range states {
		one := roomy(s)
		before := showAll(one)
		got := check.State(one)
		if showAll(one) != before {
			t.Fatalf("what was handed in is changed:\n%s\nwas\n%s", showAll(one), before)
		}
		if want := check.State(s); !slices.Equal(got, want) {
			t.Fatalf("found %v, want %v", got, want)
		}
	}
}

// meet tells whether a text lies on bytes of another.
func meet(a, b string) bool {
	if a == "" || b == "" {
		return false
	}
	from, other := uintptr(unsafe.Pointer(unsafe.StringData(a))), uintptr(unsafe.Pointer(unsafe.StringData(b)))
	return from < other+uintptr(len(b)) && other < from+uintptr(len(a))
}

// badNames is a state with findings that have names, two of them of one text.
func badNames() api.State {
	return turned(func(s *api.State) {
		s.Inodes[0].Entries[0] = api.Entry{Name: "long/" + strings.Repeat("x", 20), Num: 77}
		s.Inodes[0].Entries[1] = api.Entry{Name: "first", Num: 1}
		s.Inodes[0].Entries[2].Name = "third"
		s.Inodes[4].Entries[0] = api.Entry{Name: "second..", Num: 1}
		s.Inodes[4].Entries[1].Name = "third"
	})
}

// R4: the names that are answered lie on none that was handed in, and on no other answer's.
func TestNamesAreNew(t *testing.T) {
	s := badNames()
	var texts []string
	for _, x := range s.Inodes {
		for _, e := range x.Entries {
			texts = append(texts, e.Name)
		}
	}
	first, second := check.State(s), check.State(s)
	if len(first) != 5 || !slices.Equal(first, second) {
		t.Fatalf("%v, %v", first, second)
	}
	for _, one := range append(first, second...) {
		for _, other := range texts {
			if meet(one.Name, other) {
				t.Errorf("%v shares memory", one)
			}
		}
		texts = append(texts, one.Name)
	}
}

// R4: lists that are answered are apart.
func TestListsAreNew(t *testing.T) {
	s := badNames()
	one := check.State(s)
	want := slices.Clone(one)
	two := check.State(s)
	clear(one[:cap(one)])
	if !slices.Equal(two, want) || !slices.Equal(check.State(s), want) {
		t.Errorf("found %v, want %v", two, want)
	}
}

// R4: bytes that are handed in are not changed, and not kept.
func TestBytesStay(t *testing.T) {
	s := aStateThatLasts()
	s.Inodes[4].Entries[1].Name = "wrong/name"
	b := summed(body(s))
	memory := []byte("ahead" + b + "behind")
	was := bytes.Clone(memory)
	got, e := check.Image(unsafe.String(&memory[5], len(b)))
	if !bytes.Equal(memory, was) || e != api.OK {
		t.Errorf("error %d, or the bytes are changed", e)
	}
	clear(memory)
	if !slices.Equal(got, all(f(5, 10, "wrong/name"))) {
		t.Errorf("the findings have gone with the bytes: %v", got)
	}
}

// R5: the calls answer the same again, and from several goroutines at one time.
func TestCallsAtOneTime(t *testing.T) {
	s := badNames()
	want := check.State(s)
	b := summed(body(aStateThatLasts()))
	var group sync.WaitGroup
	for range 8 {
		group.Go(func() {
			for range 200 {
				none, e := check.Image(b)
				_, e2 := check.Image(b[1:])
				if !slices.Equal(check.State(s), want) || len(none) != 0 || e != api.OK || e2 != api.ErrLayoutSum {
					t.Error("another answer")
				}
			}
		})
	}
	group.Wait()
}
