package memfs_test

import (
	"slices"
	"strings"
	"sync"
	"testing"
	"unsafe"

	"concourse/api"
	"concourse/memfs"
	"concourse/model"
)

// deepCopy gives a state that shares no list with s.
func deepCopy(s api.State) api.State {
	s.Inodes, s.Open, s.Made = slices.Clone(s.Inodes), slices.Clone(s.Open), slices.Clone(s.Made)
	for at := range s.Inodes {
		s.Inodes[at].Entries = slices.Clone(s.Inodes[at].Entries)
	}
	return s
}

// overwrite writes over all lists of a state, their spare room too.
func overwrite(s api.State) {
	for at := range s.Inodes {
		entries := s.Inodes[at].Entries
		for place := range entries[:cap(entries)] {
			entries[:cap(entries)][place] = api.Entry{Name: "over", Num: 77}
		}
	}
	for at := range s.Inodes[:cap(s.Inodes)] {
		s.Inodes[:cap(s.Inodes)][at] = api.Inode{Num: 78, Data: "over"}
	}
	for at := range s.Open[:cap(s.Open)] {
		s.Open[:cap(s.Open)][at] = api.Desc{Core: 7, Fd: 7, Num: 7}
	}
	for at := range s.Made[:cap(s.Made)] {
		s.Made[:cap(s.Made)][at] = 79
	}
}

// someLists is a state with something in each list, and texts of two bytes or more.
func someLists(t *testing.T) api.State {
	t.Helper()
	return newState(t, 2, mkdir("/dd"), create("/ff"), link("/ff", "/dd/gg"), opening("/ff"), opening("/ff"), write(0, 0, fill('x', 200)), by(1, create("/dd/hh")), by(1, opening("/dd/hh")))
}

// P22.1, R4: a state that is handed in is not changed, its spare room neither, and not kept.
func TestLoadLeavesTheState(t *testing.T) {
	s := someLists(t)
	want := show(s)
	roomy := deepCopy(s)
	for at := range roomy.Inodes {
		own := &roomy.Inodes[at].Entries
		*own = append(*own, api.Entry{Name: "spare", Num: 98}, api.Entry{Name: "room", Num: 97})[:len(*own)]
	}
	roomy.Inodes = append(roomy.Inodes, api.Inode{Num: 99}, api.Inode{Num: 98})[:len(roomy.Inodes)]
	roomy.Open = append(roomy.Open, api.Desc{Core: 7}, api.Desc{Core: 6})[:len(roomy.Open)]
	roomy.Made = append(roomy.Made, 71, 72)[:len(roomy.Made)]
	p := newPlay(t, roomy)
	for _, c := range []api.Call{create("/n"), unlink("/dd/gg"), full('y'), closing(1), rename("/ff", "/dd/zz"), by(1, create("/dd/n"))} {
		p.whole(c)
	}
	if show(roomy) != want {
		t.Errorf("is changed:\n%s", show(roomy))
	}
	spare := roomy.Inodes[:cap(roomy.Inodes)][len(roomy.Inodes)].Num == 99 && roomy.Made[:cap(roomy.Made)][len(roomy.Made)] == 71
	for _, x := range roomy.Inodes {
		spare = spare && x.Entries[:cap(x.Entries)][len(x.Entries)].Num == 98
	}
	if !spare || roomy.Open[:cap(roomy.Open)][len(roomy.Open)].Core != 7 {
		t.Error("its spare room is changed")
	}
	f := load(t, deepCopy(s))
	handed := deepCopy(s)
	g := load(t, handed)
	overwrite(handed)
	wantState(t, f, s)
	wantState(t, g, s)
}

// borrowed gives a text that lies on bytes which may be written over.
func borrowed(text string) (string, []byte) {
	memory := []byte(text)
	return unsafe.String(unsafe.SliceData(memory), len(memory)), memory
}

// R4: texts that are handed in are not kept: neither a state's nor a call's.
func TestTextsAreNotKept(t *testing.T) {
	s := someLists(t)
	own := deepCopy(s)
	var memories [][]byte
	for at, x := range own.Inodes {
		data, memory := borrowed(x.Data)
		own.Inodes[at].Data = data
		memories = append(memories, memory)
		for place, e := range x.Entries {
			text, memory := borrowed(e.Name)
			own.Inodes[at].Entries[place].Name = text
			memories = append(memories, memory)
		}
	}
	f := load(t, own)
	for _, memory := range memories {
		clear(memory)
	}
	wantState(t, f, s)
	for _, c := range []api.Call{create("/new"), link("/ff", "/dd/new"), rename("/ff", "/dd/ren"), full('z'), opening("/ff")} {
		one, two := c, c
		var path, path2, data []byte
		two.Path, path = borrowed(c.Path)
		two.Path2, path2 = borrowed(c.Path2)
		two.Data, data = borrowed(c.Data)
		f := load(t, s)
		if e := f.Begin(two); e != api.OK {
			t.Fatal(e)
		}
		clear(path)
		clear(path2)
		clear(data)
		for f.Busy(0) {
			f.Step(0)
		}
		behind, want := model.Do(s, one)
		if got, _ := f.Result(0); showResult(got) != showResult(want) {
			t.Errorf("%+v: %s", one, showResult(got))
		}
		wantState(t, f, behind)
	}
}

// R4: what is told may be changed by who asked, and changes nothing that is told again.
func TestWhatIsToldIsNew(t *testing.T) {
	s := someLists(t)
	f := load(t, s)
	one, _ := f.State()
	two, _ := f.State()
	overwrite(one)
	if show(two) != show(s) {
		t.Errorf("another answer has become %s", show(two))
	}
	wantState(t, f, s)
	f.Begin(list("/"))
	f.Begin(by(1, list("/dd")))
	for core := range 2 {
		for f.Busy(core) {
			f.Step(core)
		}
	}
	for core, names := range [][]string{{"dd", "ff"}, {"gg", "hh"}} {
		first, _ := f.Result(core)
		second, _ := f.Result(core)
		for at := range first.Names[:cap(first.Names)] {
			first.Names[:cap(first.Names)][at] = "over"
		}
		third, _ := f.Result(core)
		if !slices.Equal(second.Names, names) || !slices.Equal(third.Names, names) {
			t.Errorf("%q, %q", second.Names, third.Names)
		}
		trace := f.Trace(core)
		want := slices.Clone(trace)
		for at := range trace[:cap(trace)] {
			trace[:cap(trace)][at] = api.Access{At: -1, Write: true}
		}
		if !slices.Equal(f.Trace(core), want) {
			t.Errorf("trace %v", f.Trace(core))
		}
	}
	// While a call is under way its trace goes on, from what it was.
	p := newPlay(t, s)
	p.begin(full('q'))
	for ended := false; !ended; ended = p.step(0) {
		trace := p.f.Trace(0)
		for at := range trace[:cap(trace)] {
			trace[:cap(trace)][at] = api.Access{At: -1, Write: true}
		}
	}
}

// share tells whether a text lies on bytes of another.
func share(a, b string) bool {
	if a == "" || b == "" {
		return false
	}
	from, other := uintptr(unsafe.Pointer(unsafe.StringData(a))), uintptr(unsafe.Pointer(unsafe.StringData(b)))
	return from < other+uintptr(len(b)) && other < from+uintptr(len(a))
}

// textsOf are all texts of a state.
func textsOf(s api.State) []string {
	var all []string
	for _, x := range s.Inodes {
		if len(x.Data) > 1 { // Go may keep texts of one byte in one place
			all = append(all, x.Data)
		}
		for _, e := range x.Entries {
			all = append(all, e.Name)
		}
	}
	return all
}

// R4: texts that are told lie on no other.
func TestTextsAreNew(t *testing.T) {
	s := someLists(t)
	f := load(t, s)
	all := textsOf(s)
	for range 2 {
		told, _ := f.State()
		all = append(all, textsOf(told)...)
	}
	for _, c := range []api.Call{list("/"), read(0, 0, 200), read(0, 0, 20)} {
		f.Begin(c)
		for f.Busy(0) {
			f.Step(0)
		}
		for range 2 {
			r, _ := f.Result(0)
			all = append(append(all, r.Names...), r.Data)
		}
	}
	for at, one := range all {
		for _, two := range all[at+1:] {
			if share(one, two) {
				t.Errorf("%q and %q share memory", strings.Clone(one), strings.Clone(two))
			}
		}
	}
}

// R5: file systems have nothing to do with one another; New and Load may be called from
// several goroutines at one time.
func TestFileSystemsAreApart(t *testing.T) {
	s := someLists(t)
	quiet := load(t, s)
	var group sync.WaitGroup
	for worker := range 8 {
		group.Go(func() {
			for range 40 {
				f, e := memfs.Load(s)
				if e != api.OK {
					t.Error(e)
					return
				}
				at := s
				for _, c := range []api.Call{full(byte('0' + worker)), create("/n"), unlink("/ff"), read(0, 0, 256), list("/")} {
					f.Begin(c)
					for f.Busy(0) {
						f.Step(0)
					}
					behind, want := model.Do(at, c)
					if got, _ := f.Result(0); showResult(got) != showResult(want) {
						t.Errorf("%+v: %s, want %s", c, showResult(got), showResult(want))
					}
					at = behind
				}
				if _, e := memfs.New(1 + worker); e != api.OK {
					t.Error(e)
				}
			}
		})
	}
	group.Wait()
	wantState(t, quiet, s)
}
