package model_test

import (
	"slices"
	"testing"
	"unsafe"

	"concourse/api"
	"concourse/model"
)

// roomy gives a state whose lists have spare room, with something in it.
func roomy(s api.State) api.State {
	x := api.Inode{Num: 99, Dir: true, Data: "spare", Entries: []api.Entry{{Name: "spare", Num: 99}}}
	s = deepCopy(s)
	for at := range s.Inodes {
		own := &s.Inodes[at].Entries
		*own = append(*own, api.Entry{Name: "spare", Num: 98}, api.Entry{Name: "room", Num: 97}, api.Entry{})[:len(*own)]
	}
	s.Inodes = append(s.Inodes, x, x, x)[:len(s.Inodes)]
	s.Open = append(s.Open, api.Desc{Core: 7, Fd: 7, Num: 7}, api.Desc{Num: 8}, api.Desc{})[:len(s.Open)]
	s.Made = append(s.Made, 71, 72, 73)[:len(s.Made)]
	return s
}

// showAll is a state as a text, with what stands in its spare room.
func showAll(s api.State) string {
	s.Inodes, s.Open, s.Made = slices.Clone(s.Inodes[:cap(s.Inodes)]), s.Open[:cap(s.Open)], s.Made[:cap(s.Made)]
	for at, x := range s.Inodes {
		s.Inodes[at].Entries = x.Entries[:cap(x.Entries)]
	}
	return show(s)
}

// spoil writes over all of a state, its spare room too.
func spoil(s api.State) {
	for _, x := range s.Inodes[:cap(s.Inodes)] {
		for at := range x.Entries[:cap(x.Entries)] {
			x.Entries[:cap(x.Entries)][at] = api.Entry{Name: "spoiled", Num: -7}
		}
	}
	for at := range s.Inodes[:cap(s.Inodes)] {
		s.Inodes[:cap(s.Inodes)][at] = api.Inode{Num: -8, Data: "spoiled"}
	}
	for at := range s.Open[:cap(s.Open)] {
		s.Open[:cap(s.Open)][at] = api.Desc{Core: -9, Fd: -9, Num: -9}
	}
	for at := range s.Made[:cap(s.Made)] {
		s.Made[:cap(s.Made)][at] = -10
	}
}

// texts are all texts of a state.
func texts(s api.State) []string {
	var all []string
	for _, x := range s.Inodes {
		all = append(all, x.Data)
		for _, e := range x.Entries {
			all = append(all, e.Name)
		}
	}
	return all
}

// meet tells whether a text of one lies on bytes of a text of the other.
func meet(one, two []string) bool {
	for _, a := range one {
		for _, b := range two {
			if a == "" || b == "" {
				continue
			}
			from, other := uintptr(unsafe.Pointer(unsafe.StringData(a))), uintptr(unsafe.Pointer(unsafe.StringData(b)))
			if from < other+uintptr(len(b)) && other < from+uintptr(len(a)) {
				return true
			}
		}
	}
	return false
}

// ownMemory gives a call whose texts are memory of their own, so that none is a piece of the program.
func ownMemory(c api.Call) api.Call {
	c.Path, c.Path2, c.Data = string([]byte(c.Path)), string([]byte(c.Path2)), string([]byte(c.Data))
	return c
}

// R4: what is handed in is not changed, its spare room neither, whatever is done with what was answered.
func TestHandedInStays(t *testing.T) {
	s := roomy(forEveryCall(t).s)
	before := showAll(s)
	for _, c := range append(everyCall(), on(api.CallOpen, "/a")) {
		behind, r := model.Do(s, c)
		allowed, _ := model.Allows(s, c, r)
		names := slices.Clone(r.Names)
		refused, _ := model.Allows(s, c, api.Result{Code: 77})
		want := show(behind)
		spoil(refused)
		spoil(allowed)
		if show(behind) != want || !slices.Equal(r.Names, names) {
			t.Errorf("%+v: two answers share memory", c)
		}
		again, _ := model.Do(s, c)
		spoil(behind)
		if show(again) != want || !slices.Equal(r.Names, names) {
			t.Errorf("%+v: two answers share memory", c)
		}
		if showAll(s) != before {
			t.Fatalf("%+v: what was handed in is changed:\n%s", c, showAll(s))
		}
	}
	model.May(s)
	model.Find(s, "/d/e/f/file")
	model.Links(s, 3)
	if showAll(s) != before {
		t.Errorf("what was handed in is changed:\n%s", showAll(s))
	}
}

// R4: the lists of one answered state do not reach into each other, and what is put behind one is in no other.
func TestListsOfAnAnswer(t *testing.T) {
	d := forEveryCall(t)
	for _, c := range everyCall() {
		behind, r := model.Do(d.s, c)
		want := show(behind)
		for _, x := range behind.Inodes {
			_ = append(x.Entries, api.Entry{Name: "behind", Num: 5})
		}
		_ = append(behind.Inodes, api.Inode{Num: 5})
		_ = append(behind.Open, api.Desc{Core: 5})
		_ = append(behind.Made, 5)
		_ = append(r.Names, "behind")
		if show(behind) != want {
			t.Errorf("%+v: lists of one answer share memory", c)
		}
	}
}

// R4: a state that is given back, as it may not be, and beside a code, is new memory too.
func TestGivenBackIsNew(t *testing.T) {
	bad := aState()
	bad.Made[0] = 1
	for _, s := range []api.State{roomy(bad), roomy(aState())} {
		before := showAll(s)
		for _, c := range []api.Call{create("/"), {Kind: 17}, {Kind: api.CallSync, Core: 9}, closing(3), {Kind: api.CallSync}} {
			one, r := model.Do(s, c)
			two, _ := model.Allows(s, c, r)
			three, _ := model.Allows(s, c, api.Result{Code: -1})
			for _, got := range []api.State{one, two, three} {
				if show(got) != show(s) || meet(texts(got), texts(s)) {
					t.Errorf("%+v: %s", c, show(got))
				}
				spoil(got)
				if showAll(s) != before {
					t.Fatalf("%+v: what was handed in is changed", c)
				}
			}
		}
	}
}

// R4: texts that are answered are new ones, neither the state's nor the call's nor each other's.
func TestTextsAreNew(t *testing.T) {
	d := forEveryCall(t)
	d.ok(create("/new"))
	d.opens(0, "/new", 1)
	for _, c := range append(everyCall(), write(1, 0, "all of it"), write(1, 4, "behind"), on(api.CallOpen, "/a"), rename("/a", "/longer")) {
		c = ownMemory(c)
		given := append(texts(d.s), c.Path, c.Path2, c.Data)
		behind, r := model.Do(d.s, c)
		answered := append(slices.Clone(r.Names), r.Data)
		if meet(texts(behind), given) || meet(answered, given) || meet(answered, texts(behind)) {
			t.Errorf("%+v: a text of the answer lies on one that was handed in, or on another", c)
		}
		allowed, may := model.Allows(d.s, c, r)
		if !may || meet(texts(allowed), append(given, append(answered, texts(behind)...)...)) {
			t.Errorf("%+v: a text of Allows lies on another", c)
		}
	}
}

// R4, P13.1: two states of New share nothing.
func TestNewIsNew(t *testing.T) {
	one, _ := model.New(3)
	two, _ := model.New(3)
	want := show(two)
	spoil(one)
	if show(two) != want {
		t.Error("two New states share memory")
	}
}
