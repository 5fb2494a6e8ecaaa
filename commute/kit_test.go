package commute_test

import (
	"fmt"
	"strings"
	"testing"

	"concourse/api"
	"concourse/model"
	"concourse/shape"
)

// show is a state that may be as a text: two of them have one text just if they are one.
func show(s api.State) string {
	text, e := shape.Of(s)
	if e != api.OK {
		return fmt.Sprintf("a state that may not be: %+v", s)
	}
	return text
}

// do does calls by the model, which must all answer CodeOK.
func do(t *testing.T, s api.State, calls ...api.Call) api.State {
	t.Helper()
	for _, c := range calls {
		var r api.Result
		if s, r = model.Do(s, c); r.Code != api.CodeOK {
			t.Fatalf("%+v: code %d", c, r.Code)
		}
	}
	return s
}

// newState is a state of so many cores, behind calls that answer CodeOK.
func newState(t *testing.T, cores int, calls ...api.Call) api.State {
	t.Helper()
	s, e := model.New(cores)
	if e != api.OK {
		t.Fatalf("%d cores: error %d", cores, e)
	}
	return do(t, s, calls...)
}

// Calls of core 0.
func on(kind int, path string) api.Call { return api.Call{Kind: kind, Path: path} }
func create(path string) api.Call       { return on(api.CallCreate, path) }
func mkdir(path string) api.Call        { return on(api.CallMkdir, path) }
func opening(path string) api.Call      { return on(api.CallOpen, path) }
func unlink(path string) api.Call       { return on(api.CallUnlink, path) }
func rmdir(path string) api.Call        { return on(api.CallRmdir, path) }
func list(path string) api.Call         { return on(api.CallList, path) }
func stat(path string) api.Call         { return on(api.CallStat, path) }
func links(path string) api.Call        { return on(api.CallLinks, path) }
func link(path, to string) api.Call     { return api.Call{Kind: api.CallLink, Path: path, Path2: to} }
func rename(path, to string) api.Call   { return api.Call{Kind: api.CallRename, Path: path, Path2: to} }
func closing(fd int) api.Call           { return api.Call{Kind: api.CallClose, Fd: fd} }
func size(fd int) api.Call              { return api.Call{Kind: api.CallSize, Fd: fd} }
func fsync(fd int) api.Call             { return api.Call{Kind: api.CallFsync, Fd: fd} }
func syncing() api.Call                 { return api.Call{Kind: api.CallSync} }
func truncate(fd, num int) api.Call     { return api.Call{Kind: api.CallTruncate, Fd: fd, Num: num} }
func read(fd, off, num int) api.Call    { return api.Call{Kind: api.CallRead, Fd: fd, Off: off, Num: num} }
func write(fd, off int, d string) api.Call {
	return api.Call{Kind: api.CallWrite, Fd: fd, Off: off, Data: d}
}

// by lets another core do a call.
func by(core int, c api.Call) api.Call {
	c.Core = core
	return c
}

// fill is so many bytes of one kind.
func fill(b byte, count int) string {
	return strings.Repeat(string([]byte{b}), count)
}

// kinds is how many kinds of calls there are.
const kinds = api.CallSync + 1

// kindName is what a kind of calls is named.
func kindName(kind int) string {
	return strings.Fields("Create Mkdir Open Close Read Write Truncate Size Link Unlink Rmdir Rename List Stat Links Fsync Sync")[kind]
}

// row is a row of numbers that is the same in each run.
type row uint64

func (r *row) below(n int) int {
	*r = *r*6364136223846793005 + 1442695040888963407
	return int(uint64(*r) >> 33 % uint64(n))
}

// oneOf gives one of several.
func oneOf[T any](r *row, all ...T) T {
	return all[r.below(len(all))]
}

// someName is a name, often of one bucket (a, i, q, y, A, I, Q have it), and at times one that no name may be.
func (r *row) someName() string {
	if r.below(30) == 0 {
		return oneOf(r, "", ".", "..", "1234567890123", "a\x01", "\xff", "a\x7f")
	}
	return oneOf(r, "a", "i", "q", "y", "A", "I", "Q", "a", "i", "b", "c", "ab", "é", "日本", "123456789012")
}

// somePath is mostly a path that leads somewhere, or on from there by one name.
func (r *row) somePath(s api.State) string {
	p, num := "", 1
	for range r.below(4) {
		entries := inodeOf(s, num).Entries
		if len(entries) == 0 {
			break
		}
		e := entries[r.below(len(entries))]
		p, num = p+"/"+e.Name, e.Num
	}
	switch r.below(9) {
	case 0, 1, 2:
		return p + "/" + r.someName()
	case 3:
		return "/" + r.someName()
	case 4:
		if r.below(3) == 0 {
			return p + "/" + r.someName() + "/" + r.someName()
		}
		if r.below(8) == 0 {
			return oneOf(r, "", "a", "//", p+"/", strings.Repeat("/a", 5), strings.Repeat("/12345678", 8))
		}
	}
	if p == "" {
		return "/"
	}
	return p
}

// someSize is a place or a length, often one at which a page ends, and at times one that may not be.
func (r *row) someSize() int {
	switch r.below(8) {
	case 0:
		return oneOf(r, -1, 257, -1<<63, 1<<63-1)
	case 1, 2, 3:
		return oneOf(r, 0, 1, 15, 16, 17, 31, 32, 33, 128, 240, 255, 256)
	}
	return r.below(257)
}

// someCall is any call of a kind and a core, with fields that its kind does not use filled too.
func (r *row) someCall(s api.State, kind, core int) api.Call {
	c := api.Call{Kind: kind, Core: core, Fd: r.below(5) - r.below(2), Off: r.someSize(), Num: r.someSize()}
	c.Path, c.Path2, c.Data = r.somePath(s), r.somePath(s), fill(byte('a'+r.below(26)), oneOf(r, 0, 1, r.below(20), r.below(140), 256, 257))
	if r.below(2) == 0 {
		c.Fd, c.Off = r.below(2), r.below(257-min(256, len(c.Data)))
	}
	if r.below(3) == 0 {
		c.Path2 = oneOf(r, "/", "/c/", "/i/") + r.someName()
	}
	return c
}

// someState is a state behind drawn calls: with full buckets, files that are open without names or by several cores,
// and cores that have nearly all numbers.
func (r *row) someState(t *testing.T, cores, calls int) api.State {
	t.Helper()
	s := newState(t, cores)
	if r.below(4) > 0 {
		s = do(t, s, create("/a"), mkdir("/i"), link("/a", "/i/a"), mkdir("/c"), create("/c/Q"), opening("/a"), write(0, 0, fill('x', r.below(257))))
		for core := 1; core < cores; core++ {
			s = do(t, s, by(core, opening(oneOf(r, "/a", "/c/Q"))), by(core, opening("/a")))
		}
	}
	for range calls {
		kind := r.below(kinds)
		if r.below(2) == 0 {
			kind = oneOf(r, api.CallCreate, api.CallMkdir, api.CallLink, api.CallOpen, api.CallWrite)
		}
		s, _ = model.Do(s, r.someCall(s, kind, r.below(cores)))
	}
	for core := range s.Made {
		if r.below(4) == 0 {
			s.Made[core] = max(s.Made[core], api.MaxMade-r.below(3))
		}
	}
	if !model.May(s) {
		t.Fatalf("%+v may not be", s)
	}
	return s
}
