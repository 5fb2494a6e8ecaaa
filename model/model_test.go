package model_test

import (
	"math"
	"slices"
	"strconv"
	"strings"
	"testing"

	"concourse/api"
	"concourse/model"
)

// P13.1: New of each number of cores that there may be.
func TestNew(t *testing.T) {
	for cores := 1; cores <= api.MaxCores; cores++ {
		s, e := model.New(cores)
		want := api.State{Inodes: []api.Inode{{Num: 1, Dir: true}}, Made: make([]int, cores)}
		if e != api.OK || show(s) != show(want) || !model.May(s) {
			t.Errorf("%d cores: error %d, %s", cores, e, show(s))
		}
	}
}

// P13.1: cores of which there may not be so many.
func TestNewRefuses(t *testing.T) {
	for _, cores := range []int{0, -1, -8, 9, 10, 32, 1 << 32, math.MinInt, math.MaxInt} {
		if s, e := model.New(cores); e != api.ErrModelForm || s.Inodes != nil || s.Open != nil || s.Made != nil {
			t.Errorf("%d cores: error %d, %s", cores, e, show(s))
		}
	}
}

// aTree is a state with files and directories: /d, /d/e, /d/e/f, /d/e/f/file (numbers 2, 10, 18, 26 of core 0), /a
// (number 3 of core 1), which is /d/a and /d/e/b too.
func aTree(t *testing.T) *desk {
	t.Helper()
	d := newDesk(t, 2)
	d.ok(mkdir("/d"), mkdir("/d/e"), mkdir("/d/e/f"), create("/d/e/f/file"), by(1, create("/a")))
	d.ok(link("/a", "/d/a"), by(1, link("/d/a", "/d/e/b")))
	return d
}

// P13.1: Find's numbers and codes, name by name.
func TestFind(t *testing.T) {
	d := aTree(t)
	for p, want := range map[string][2]int{
		"/": {1, 0}, "/d": {2, 0}, "/d/e": {10, 0}, "/d/e/f": {18, 0}, "/d/e/f/file": {26, 0}, "/a": {3, 0}, "/d/a": {3, 0}, "/d/e/b": {3, 0},
		"/x": {0, api.ENOENT}, "/d/x": {0, api.ENOENT}, "/x/d": {0, api.ENOENT}, "/x/y/z/a": {0, api.ENOENT}, "/e": {0, api.ENOENT},
		"/a/x": {0, api.ENOTDIR}, "/a/x/y": {0, api.ENOTDIR}, "/d/e/b/d": {0, api.ENOTDIR}, "/d/a/e/f": {0, api.ENOTDIR},
		"": {0, api.EINVAL}, "a": {0, api.EINVAL}, "d/e": {0, api.EINVAL}, "/d/": {0, api.EINVAL}, "//d": {0, api.EINVAL}, "/d//e": {0, api.EINVAL},
		"/.": {0, api.EINVAL}, "/d/..": {0, api.EINVAL}, "/a\x00": {0, api.EINVAL}, "/\xff": {0, api.EINVAL}, "/x/\x7f": {0, api.EINVAL},
		"/d/e/f/file/x": {0, api.ENAMETOOLONG}, "/x/y/z/u/v": {0, api.ENAMETOOLONG}, "/1234567890123": {0, api.ENAMETOOLONG},
		"/x/1234567890123":      {0, api.ENAMETOOLONG},
		strings.Repeat("x", 65): {0, api.ENAMETOOLONG}, strings.Repeat("x", 64): {0, api.EINVAL},
		"/D": {0, api.ENOENT}, "/d/E": {0, api.ENOENT}, "/d ": {0, api.ENOENT},
	} {
		if num, code := model.Find(d.s, p); num != want[0] || code != want[1] {
			t.Errorf("Find(%q): %d, code %d, want %d, code %d", p, num, code, want[0], want[1])
		}
	}
}

// P13.1: Links counts entries of all directories, and descriptors for nothing.
func TestLinks(t *testing.T) {
	d := aTree(t)
	d.opens(0, "/a", 0)
	d.opens(1, "/a", 0)
	for num, want := range map[int]int{
		1: 0, 2: 1, 3: 3, 10: 1, 18: 1, 26: 1, 0: 0, -1: 0, 4: 0, 34: 0, math.MinInt: 0, math.MaxInt: 0,
	} {
		if got := model.Links(d.s, num); got != want {
			t.Errorf("Links(%d): %d, want %d", num, got, want)
		}
	}
	d.ok(unlink("/a"), unlink("/d/a"), unlink("/d/e/b"))
	if got := model.Links(d.s, 3); got != 0 || !d.has(3) {
		t.Errorf("Links(3), open without a name: %d", got)
	}
}

// P13.1: Find and Links take any state by their words alone: they end, and answer of what lists say.
func TestFindAndLinksOfAnyState(t *testing.T) {
	for p, want := range map[string][2]int{"/": {1, 0}, "/a": {0, api.ENOENT}, "": {0, api.EINVAL}} {
		if num, code := model.Find(api.State{}, p); num != want[0] || code != want[1] {
			t.Errorf("Find(%q) of no inodes: %d, code %d", p, num, code)
		}
	}
	s := api.State{Inodes: []api.Inode{
		{Num: 5, Dir: true, Entries: []api.Entry{{Name: "up", Num: 1}, {Name: "self", Num: 5}, {Name: "file", Num: 4}}},
		{Num: 4, Entries: []api.Entry{{Name: "x", Num: 5}}},
		{Num: 1, Dir: true, Entries: []api.Entry{{Name: "z", Num: 5}, {Name: "a", Num: 5}, {Name: "gone", Num: 77}}},
		{Num: 5, Entries: []api.Entry{{Name: "x", Num: 5}}},
	}}
	for p, want := range map[string][2]int{
		"/a": {5, 0}, "/z": {5, 0}, "/z/self/self/self": {5, 0}, "/z/up/a/up": {1, 0}, "/a/file": {4, 0}, "/a/file/x": {0, api.ENOTDIR},
		"/gone": {77, 0}, "/gone/x": {0, api.ENOENT}, "/b": {0, api.ENOENT},
	} {
		if num, code := model.Find(s, p); num != want[0] || code != want[1] {
			t.Errorf("Find(%q): %d, code %d, want %d, code %d", p, num, code, want[0], want[1])
		}
	}
	for num, want := range map[int]int{1: 1, 4: 1, 5: 3, 77: 1, 0: 0} {
		if got := model.Links(s, num); got != want {
			t.Errorf("Links(%d): %d, want %d", num, got, want)
		}
	}
	if model.May(s) || model.Links(api.State{}, 1) != 0 {
		t.Error("a state that may not be")
	}
}

// P13.2: Create and Mkdir give the core's next number, from 2 on, and never one again.
func TestNumbersOfNewInodes(t *testing.T) {
	for cores := 1; cores <= api.MaxCores; cores++ {
		d := newDesk(t, cores)
		for given := range 4 {
			for core := range cores {
				p := "/n" + strconv.Itoa(core)
				d.ok(by(core, mkdir(p)))
				if num, code := model.Find(d.s, p); num != 2+core+8*given || code != 0 || d.s.Made[core] != given+1 {
					t.Errorf("%d cores: core %d: %d behind %d", cores, core, num, given)
				}
				d.ok(rmdir(p))
				if d.has(2 + core + 8*given) {
					t.Errorf("%d cores: inode of %s is there", cores, p)
				}
			}
		}
	}
}

// P13.2: a new file and a new directory are empty, and a name is one for both.
func TestCreateAndMkdir(t *testing.T) {
	d := newDesk(t, 1)
	d.ok(create("/f"), mkdir("/d"))
	d.want(on(api.CallStat, "/f"), api.Result{})
	d.want(on(api.CallStat, "/d"), api.Result{Dir: true})
	d.want(on(api.CallList, "/d"), api.Result{})
	d.want(on(api.CallList, "/"), api.Result{Names: []string{"d", "f"}})
	d.want(on(api.CallLinks, "/f"), api.Result{Num: 1})
	d.code(api.EEXIST, create("/f"), create("/d"), mkdir("/f"), mkdir("/d"))
	d.code(api.ENOTDIR, create("/f/x"), mkdir("/f/x"), create("/f/x/y"))
	d.code(api.ENOENT, create("/x/y"), mkdir("/x/y"), create("/d/x/y"))
	d.code(api.EINVAL, create("/"), mkdir("/"), create(""), mkdir("x"), create("/f/"), mkdir("/d/."))
	d.code(api.ENAMETOOLONG, create("/1234567890123"), mkdir("/x/y/z/u/v"), create("/f/x/y/z/u"))
	d.ok(create("/123456789012"), mkdir("/é日本"), create("/é日本/ ~"))
	d.look()
}

// P13.2: a path of MaxDepth names, and one more.
func TestDepth(t *testing.T) {
	d := newDesk(t, 1)
	d.ok(mkdir("/a"), mkdir("/a/b"), mkdir("/a/b/c"), mkdir("/a/b/c/d"), create("/a/b/c/e"))
	deep := []int{api.CallCreate, api.CallMkdir, api.CallOpen, api.CallUnlink, api.CallRmdir, api.CallList, api.CallStat, api.CallLinks}
	for _, kind := range deep {
		d.code(api.ENAMETOOLONG, on(kind, "/a/b/c/d/e"))
	}
	d.code(api.ENAMETOOLONG, link("/a/b/c/e", "/a/b/c/d/e"), rename("/a/b/c/e", "/a/b/c/d/e"), rename("/a/b/c/d/e", "/x"), link("/a/b/c/d/e", "/x"))
	d.opens(0, "/a/b/c/e", 0)
	d.ok(link("/a/b/c/e", "/a/b/c/f"), rename("/a/b/c/f", "/f"), unlink("/a/b/c/e"), rmdir("/a/b/c/d"))
	d.look()
}

// P13.2: a directory may be moved to where its own names are too deep for a path; it may be, and comes back.
func TestMovedBelowDepth(t *testing.T) {
	d := newDesk(t, 1)
	d.ok(mkdir("/a"), mkdir("/a/b"), mkdir("/a/b/c"), create("/a/b/c/f"), mkdir("/x"), mkdir("/x/y"), mkdir("/x/y/z"))
	d.ok(rename("/a", "/x/y/z/a"))
	d.code(api.ENAMETOOLONG, on(api.CallStat, "/x/y/z/a/b"), create("/x/y/z/a/n"))
	d.want(on(api.CallList, "/x/y/z/a"), api.Result{Names: []string{"b"}})
	d.code(api.ENOTEMPTY, rmdir("/x/y/z/a"))
	d.ok(rename("/x/y/z/a", "/a"))
	d.want(on(api.CallList, "/a/b/c"), api.Result{Names: []string{"f"}})
}

// P13.2: List's names rise by their bytes.
func TestListRises(t *testing.T) {
	d := newDesk(t, 2)
	names := []string{"é", "b", "B", "a", "ab", "a.", "日", "~", "1", "10", "2", " ", "\ufffd", "\U0001f600"}
	for at, one := range names {
		d.ok(by(at%2, create("/"+one)))
	}
	slices.Sort(names)
	d.want(on(api.CallList, "/"), api.Result{Names: names})
}

// P13.2: calls that turn nothing on a path: what each answers of a file, of a directory and of the root.
func TestAskingCalls(t *testing.T) {
	d := aTree(t)
	d.opens(1, "/a", 0)
	d.want(by(1, write(0, 0, "12345")), api.Result{Num: 5})
	d.want(on(api.CallStat, "/"), api.Result{Dir: true})
	d.want(on(api.CallStat, "/d/e"), api.Result{Dir: true})
	d.want(on(api.CallStat, "/d/e/b"), api.Result{Num: 5})
	d.want(on(api.CallList, "/"), api.Result{Names: []string{"a", "d"}})
	d.want(on(api.CallList, "/d"), api.Result{Names: []string{"a", "e"}})
	d.want(on(api.CallLinks, "/a"), api.Result{Num: 3})
	d.want(on(api.CallLinks, "/d/e/f/file"), api.Result{Num: 1})
	d.code(api.ENOTDIR, on(api.CallList, "/a"), on(api.CallList, "/a/x"), on(api.CallStat, "/a/x"), on(api.CallLinks, "/a/x"))
	d.code(api.EISDIR, on(api.CallLinks, "/"), on(api.CallLinks, "/d"))
	d.code(api.ENOENT, on(api.CallList, "/x"), on(api.CallStat, "/x"), on(api.CallLinks, "/x/a"))
	d.code(api.EINVAL, on(api.CallList, ""), on(api.CallStat, "/d/"), on(api.CallLinks, "a"))
	d.ok(api.Call{Kind: api.CallSync}, by(1, api.Call{Kind: api.CallFsync}), by(1, api.Call{Kind: api.CallSync, Fd: 9, Path: "?"}))
	d.code(api.EBADF, api.Call{Kind: api.CallFsync}, by(1, api.Call{Kind: api.CallFsync, Fd: 1}))
}
