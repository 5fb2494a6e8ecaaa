package depend_test

import (
	"math"
	"slices"
	"strings"
	"testing"

	"concourse/api"
	"concourse/depend"
	"concourse/model"
)

// P15.1: kinds of calls that turn nothing have no keys, whatever they answer.
func TestKindsWithoutKeys(t *testing.T) {
	d := deep(t)
	d.ok(opening("/a"), write(0, 0, "bytes"))
	read := api.Call{Kind: api.CallRead, Off: 1, Num: 3}
	size, fsync, sync := api.Call{Kind: api.CallSize}, api.Call{Kind: api.CallFsync}, api.Call{Kind: api.CallSync}
	d.none(api.CodeOK, read, size, fsync, sync, by(2, sync), list("/"), list("/d/e"), list("/e"))
	d.none(api.CodeOK, on(api.CallStat, "/"), on(api.CallStat, "/a"), on(api.CallStat, "/d/e/f/c"), on(api.CallLinks, "/a"), on(api.CallLinks, "/d/b"))
	d.none(api.EBADF, by(1, read), by(1, size), by(1, fsync))
	d.none(api.ENOENT, list("/x"), on(api.CallStat, "/x"), on(api.CallLinks, "/x/y"))
}

// P15.1: a kind that is none, and a core that is none, have no keys.
func TestNoSuchKindOrCore(t *testing.T) {
	d := deep(t)
	for _, kind := range []int{-1, 17, 18, 99, math.MinInt, math.MaxInt} {
		d.none(api.EINVAL, api.Call{Kind: kind, Path: "/x", Path2: "/y", Data: "x"})
	}
	for _, core := range []int{-1, -2, 3, 8, math.MinInt, math.MaxInt} {
		for _, c := range okAtDeep() {
			d.none(api.EINVAL, by(core, c))
		}
	}
}

// okAtDeep are calls, one of each kind that has keys, that answer CodeOK at deep with /a open.
func okAtDeep() []api.Call {
	return []api.Call{
		create("/x"), mkdir("/d/x"), opening("/d/b"), closing(0), write(0, 0, "x"), truncate(0, 3),
		link("/a", "/d/e/x"), unlink("/d/b"), rmdir("/e"), rename("/d", "/e/d"),
	}
}

// P15.1: calls that answer another code have no keys, by each code that they may answer.
func TestCodesWithoutKeys(t *testing.T) {
	d := deep(t)
	d.ok(opening("/a"))
	for _, kind := range []int{api.CallCreate, api.CallMkdir, api.CallOpen, api.CallLink, api.CallUnlink, api.CallRmdir, api.CallRename} {
		d.none(api.EINVAL, on(kind, "", "/z"), on(kind, "a", "/z"), on(kind, "/a/", "/z"), on(kind, "/..", "/z"))
		d.none(api.ENAMETOOLONG, on(kind, "/1234567890123", "/z"), on(kind, strings.Repeat("/a", 5), "/z"), on(kind, "/"+strings.Repeat("a", 64), "/z"))
		d.none(api.ENOENT, on(kind, "/x/y", "/z"), on(kind, "/d/e/x/y", "/z"))
		d.none(api.ENOTDIR, on(kind, "/a/y", "/z"), on(kind, "/d/b/y", "/z"))
	}
	d.none(api.EEXIST, create("/a"), mkdir("/d"), link("/a", "/d"), rename("/a", "/d/b"), rename("/a", "/a"))
	d.none(api.EISDIR, opening("/"), opening("/d"), link("/d", "/x"), link("/", "/x"), unlink("/d"))
	d.none(api.ENOTDIR, rmdir("/a"), link("/a", "/a/x"), rename("/a", "/d/b/x"))
	d.none(api.ENOTEMPTY, rmdir("/d"), rmdir("/d/e"))
	d.none(api.ENOENT, opening("/x"), unlink("/x"), rmdir("/x"), link("/x", "/y"), rename("/x", "/y"), link("/a", "/x/y"), rename("/a", "/x/y"))
	d.none(api.EINVAL, create("/"), unlink("/"), rmdir("/"), rename("/", "/x"), rename("/a", "/"), link("/a", "/"), rename("/d", "/d/x"))
	d.none(api.EBADF, closing(1), closing(-1), closing(math.MaxInt), write(1, 0, "x"), truncate(3, 0), by(1, closing(0)))
	d.none(api.EINVAL, write(0, -1, "x"), write(0, 0, strings.Repeat("x", 257)), truncate(0, -1), truncate(0, math.MaxInt))
	d.none(api.ENOSPC, write(0, 256, "x"))
	d.ok(opening("/a"), opening("/d/b"), opening("/a"))
	d.none(api.EMFILE, opening("/a"))
	d.ok(create("/i"), create("/q"), create("/y"))
	d.none(api.ENOSPC, create("/A"), mkdir("/I"), link("/d/b", "/A"), rename("/d/b", "/A"))
	d.want(rename("/i", "/A"), "-1: 1:. 1:/2 26:")
}

// bad are states that may not be, each rule of chapter 13 broken alone, in which okAtDeep's calls would find their way.
func bad(t *testing.T) map[string]api.State {
	t.Helper()
	d := deep(t)
	d.ok(opening("/a"))
	all := map[string]api.State{"no state": {}}
	add := func(what string, turn func(s *api.State)) {
		s := deepCopy(d.s)
		turn(&s)
		all[what] = s
	}
	add("no cores", func(s *api.State) { s.Made = nil })
	add("9 cores", func(s *api.State) { s.Made = append(s.Made, 0, 0, 0, 0, 0, 0) })
	add("made below 0", func(s *api.State) { s.Made = append(s.Made, -1) })
	add("33 made", func(s *api.State) { s.Made[2] = 33 })
	add("made too few", func(s *api.State) { s.Made[1] = 2 })
	add("no root", func(s *api.State) { s.Inodes = s.Inodes[1:] })
	add("they fall", func(s *api.State) { s.Inodes[2], s.Inodes[3] = s.Inodes[3], s.Inodes[2] })
	add("twice", func(s *api.State) { s.Inodes = slices.Insert(s.Inodes, 3, s.Inodes[3]) })
	add("a directory with bytes", func(s *api.State) { s.Inodes[1].Data = "x" })
	add("257 bytes", func(s *api.State) { s.Inodes[2].Data = strings.Repeat("x", 257) })
	add("a file with entries", func(s *api.State) { s.Inodes[2].Entries = []api.Entry{{Name: "x", Num: 3}} })
	add("names fall", func(s *api.State) { slices.Reverse(s.Inodes[0].Entries) })
	add("a name that may not be", func(s *api.State) {
		s.Inodes[0].Entries = slices.Insert(s.Inodes[0].Entries, 0, api.Entry{Name: "..", Num: 3})
	})
	add("five of one bucket", func(s *api.State) {
		s.Inodes[0].Entries = slices.Insert(s.Inodes[0].Entries, 0, api.Entry{Name: "A", Num: 3}, api.Entry{Name: "I", Num: 3})
		s.Inodes[0].Entries = append(s.Inodes[0].Entries, api.Entry{Name: "i", Num: 3}, api.Entry{Name: "q", Num: 3})
	})
	add("no such inode", func(s *api.State) { s.Inodes[0].Entries = append(s.Inodes[0].Entries, api.Entry{Name: "z", Num: 99}) })
	add("a directory twice", func(s *api.State) { s.Inodes[0].Entries = append(s.Inodes[0].Entries, api.Entry{Name: "z", Num: 2}) })
	add("a ring", func(s *api.State) {
		s.Made[2] = 2
		s.Inodes = slices.Insert(s.Inodes, 6, api.Inode{Num: 12, Dir: true, Entries: []api.Entry{{Name: "r", Num: 12}}})
	})
	add("a file without entry", func(s *api.State) {
		s.Made[2] = 2
		s.Inodes = slices.Insert(s.Inodes, 6, api.Inode{Num: 12})
	})
	add("an fd too great", func(s *api.State) { s.Open = append(s.Open, api.Desc{Core: 0, Fd: 4, Num: 3}) })
	add("no such core", func(s *api.State) { s.Open = append(s.Open, api.Desc{Core: 3, Num: 3}) })
	add("an open directory", func(s *api.State) { s.Open = append(s.Open, api.Desc{Core: 2, Num: 2}) })
	add("descriptors fall", func(s *api.State) { s.Open = append(s.Open, s.Open[0]) })
	return all
}

// deepCopy gives a state that shares no list with s.
func deepCopy(s api.State) api.State {
	s.Inodes, s.Open, s.Made = slices.Clone(s.Inodes), slices.Clone(s.Open), slices.Clone(s.Made)
	for at := range s.Inodes {
		s.Inodes[at].Entries = slices.Clone(s.Inodes[at].Entries)
	}
	return s
}

// P15.1, P15.2: of a state that may not be no call has keys, nothing is Closed, and Closure has the wanted alone.
func TestStatesThatMayNot(t *testing.T) {
	cs := okAtDeep()
	d := deep(t)
	d.ok(opening("/a"))
	for _, c := range cs {
		if len(depend.Keys(d.s, c)) == 0 {
			t.Fatalf("%+v: no keys, though the state may be", c)
		}
	}
	for what, s := range bad(t) {
		if model.May(s) {
			t.Fatalf("%s: may be", what)
		}
		for _, c := range cs {
			if keys := depend.Keys(s, c); len(keys) != 0 {
				t.Errorf("%s: %+v: keys %s", what, c, told(keys))
			}
		}
		all := slices.Repeat([]bool{true}, len(cs))
		if depend.Closed(s, cs, make([]bool, len(cs))) || depend.Closed(s, cs, all) || depend.Closed(s, nil, nil) {
			t.Errorf("%s: closed", what)
		}
		want := make([]bool, len(cs))
		want[3], want[8] = true, true
		if got := depend.Closure(s, cs, []int{8, 3, 99, -1, 3}); !slices.Equal(got, want) {
			t.Errorf("%s: Closure: %v", what, got)
		}
		if got := depend.Closure(s, nil, []int{0}); len(got) != 0 {
			t.Errorf("%s: Closure of no calls: %v", what, got)
		}
	}
}
