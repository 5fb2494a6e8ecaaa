package memfs_test

import (
	"math"
	"slices"
	"strings"
	"testing"

	"concourse/api"
	"concourse/model"
	"concourse/name"
)

// plays does calls one by one, each of which must answer what the model does.
func plays(p *play, s api.State, calls ...api.Call) api.State {
	p.t.Helper()
	for _, c := range calls {
		got := p.whole(c)
		behind, want := model.Do(s, c)
		if showResult(got) != showResult(want) {
			p.t.Fatalf("%+v: %s, want %s, at\n%s", c, showResult(got), showResult(want), show(s))
		}
		wantState(p.t, p.f, behind)
		s = behind
	}
	return s
}

// answers does a call, which must answer a code, on the model's word too.
func answers(t *testing.T, s api.State, code int, calls ...api.Call) {
	t.Helper()
	for _, c := range calls {
		p := newPlay(t, s)
		plays(p, s, c)
		if p.ops[0].Result.Code != code {
			t.Errorf("%+v: code %d, want %d", c, p.ops[0].Result.Code, code)
		}
	}
}

// codesOf are the codes that a kind of call may answer.
func codesOf(kind int) []int {
	walked := []int{api.CodeOK, api.EINVAL, api.ENAMETOOLONG, api.ENOENT, api.ENOTDIR}
	switch kind {
	case api.CallCreate, api.CallMkdir, api.CallRename:
		return append(walked, api.EEXIST, api.ENOSPC)
	case api.CallOpen:
		return append(walked, api.EISDIR, api.EMFILE)
	case api.CallLink:
		return append(walked, api.EISDIR, api.EEXIST, api.ENOSPC)
	case api.CallUnlink, api.CallLinks:
		return append(walked, api.EISDIR)
	case api.CallRmdir:
		return append(walked, api.ENOTEMPTY)
	case api.CallList, api.CallStat:
		return walked
	case api.CallClose, api.CallSize, api.CallFsync:
		return []int{api.CodeOK, api.EBADF}
	case api.CallRead, api.CallTruncate:
		return []int{api.CodeOK, api.EBADF, api.EINVAL}
	case api.CallWrite:
		return []int{api.CodeOK, api.EBADF, api.EINVAL, api.ENOSPC}
	}
	return []int{api.CodeOK}
}

// P22.2: each kind of call, one by one from drawn states, answers what the model does, with
// every code that it may answer.
func TestOneByOne(t *testing.T) {
	t.Parallel()
	r := row(1)
	seen := map[[2]int]int{}
	for round := range 240 {
		cores := 1 + round%api.MaxCores
		s := r.someState(t, cores, r.below(160))
		p := newPlay(t, s)
		for range 60 {
			c := r.someCall(s, r.below(cores))
			s = plays(p, s, c)
			seen[[2]int{c.Kind, p.ops[len(p.ops)-1].Result.Code}]++
		}
	}
	for kind := range 17 {
		for _, code := range codesOf(kind) {
			if seen[[2]int{kind, code}] == 0 {
				t.Errorf("no call %d answered code %d", kind, code)
			}
			delete(seen, [2]int{kind, code})
		}
	}
	if len(seen) != 0 {
		t.Errorf("codes that a call may not answer: %v", seen)
	}
}

// fourOf are names of one bucket, one more than it has room for.
func fourOf(t *testing.T, bucket int) []string {
	t.Helper()
	var names []string
	for r := 'A'; len(names) <= api.MaxSlots; r++ {
		if name.Bucket(string(r)) == bucket {
			names = append(names, string(r))
		}
	}
	return names
}

// P22.2: want of room in a bucket, and which Renames need none.
func TestFullBucket(t *testing.T) {
	n := fourOf(t, 3)
	other := fourOf(t, 4)
	s := newState(t, 2, mkdir("/d"), mkdir("/e"), create("/e/"+n[0]), mkdir("/e/"+other[0]))
	for _, own := range n[:4] {
		s = do(t, s, create("/d/"+own))
	}
	full := "/d/" + n[4]
	answers(t, s, api.ENOSPC, create(full), mkdir(full), link("/d/"+n[0], full), link("/e/"+n[0], full), rename("/e/"+n[0], full), rename("/e/"+other[0], full), by(1, create(full)))
	answers(t, s, api.CodeOK, rename("/d/"+n[1], full), create("/d/"+other[0]), create("/e/"+n[4]), link("/d/"+n[0], "/d/"+other[1]), rename("/d/"+n[2], "/d/"+other[2]))
	answers(t, s, api.EEXIST, create("/d/"+n[0]), rename("/e/"+n[0], "/d/"+n[0]), rename("/d/"+n[0], "/d/"+n[0]), link("/d/"+n[0], "/d/"+n[1]))
	p := newPlay(t, s)
	plays(p, s, unlink("/d/"+n[3]), create(full), create("/d/"+n[3]), rename(full, "/d/"+n[3]), create(full))
}

// P22.2: want of numbers, and of descriptors.
func TestFullCores(t *testing.T) {
	s := newState(t, 2, mkdir("/d"), create("/a"))
	s.Made = []int{api.MaxMade - 1, api.MaxMade}
	answers(t, s, api.ENOSPC, by(1, create("/b")), by(1, mkdir("/b")))
	answers(t, s, api.EEXIST, by(1, create("/a")), by(1, mkdir("/d")))
	p := newPlay(t, s)
	s = plays(p, s, create("/b"), create("/c"), mkdir("/c"), by(1, link("/b", "/c")), unlink("/b"), create("/b"))
	for range api.MaxFds + 1 {
		s = plays(p, s, opening("/a"), by(1, opening("/c")))
	}
	plays(p, s, closing(2), closing(0), by(1, closing(3)), opening("/c"), by(1, opening("/a")), opening("/c"), opening("/c"))
}

// P22.2: paths that may not be, and those that lead nowhere, for each call that has paths.
func TestWrongPaths(t *testing.T) {
	s := newState(t, 2, mkdir("/d"), create("/d/f"), create("/a"))
	kinds := []int{api.CallCreate, api.CallMkdir, api.CallOpen, api.CallLink, api.CallUnlink, api.CallRmdir, api.CallRename, api.CallList, api.CallStat, api.CallLinks}
	wrong := map[string]int{
		"": api.EINVAL, "a": api.EINVAL, "//": api.EINVAL, "/a/": api.EINVAL, "/d//f": api.EINVAL, "/.": api.EINVAL, "/d/..": api.EINVAL, "/\xff": api.EINVAL, "/a\x00": api.EINVAL,
		"/1234567890123": api.ENAMETOOLONG, "/d/f/g/h/i": api.ENAMETOOLONG, strings.Repeat("/12345678", 8): api.ENAMETOOLONG, "/" + fill('x', 1<<20): api.ENAMETOOLONG,
		"/x/y": api.ENOENT, "/d/x/y": api.ENOENT, "/a/x": api.ENOTDIR, "/d/f/x/y": api.ENOTDIR,
	}
	for _, kind := range kinds {
		for p, code := range wrong {
			answers(t, s, code, api.Call{Kind: kind, Path: p, Path2: "/new"})
			if kind == api.CallLink || kind == api.CallRename {
				answers(t, s, code, api.Call{Kind: kind, Path: "/a", Path2: p})
			}
		}
	}
	answers(t, s, api.EINVAL, create("/"), mkdir("/"), unlink("/"), rmdir("/"), rename("/", "/x"), rename("/d", "/"), link("/a", "/"))
	answers(t, s, api.EISDIR, opening("/"), opening("/d"), link("/", "/x"), link("/d", "/x"), unlink("/d"), links("/"), links("/d"))
	answers(t, s, api.ENOTDIR, rmdir("/a"), rmdir("/d/f"), list("/a"), list("/d/f"))
	answers(t, s, api.ENOENT, opening("/x"), unlink("/x"), rmdir("/d/x"), rename("/x", "/"), rename("/x", ""), link("/x", ""), list("/x"), stat("/d/x"), links("/x"))
	answers(t, s, api.ENOTEMPTY, rmdir("/d"))
}

// P22.2: no directory becomes one below itself.
func TestRenameBelow(t *testing.T) {
	s := newState(t, 1, mkdir("/d"), mkdir("/d/e"), mkdir("/d/e/f"), mkdir("/de"), create("/a"))
	answers(t, s, api.EINVAL, rename("/d", "/d/x"), rename("/d", "/d/e/x"), rename("/d", "/d/e/f/x"), rename("/d/e", "/d/e/f/x"), rename("/d", "/d/e"), rename("/d/e/f", "/d/e/f/x"))
	answers(t, s, api.CodeOK, rename("/d", "/de/x"), rename("/d/e/f", "/d/x"), rename("/d/e", "/x"), rename("/d/e/f", "/de/f"))
	answers(t, s, api.ENOENT, rename("/d", "/d/x/y"))
	answers(t, s, api.ENOTDIR, rename("/a", "/a/x"))
	answers(t, s, api.EEXIST, rename("/d", "/d"), rename("/a", "/a"), rename("/d/e", "/d"))
	// A directory that moves takes what is below it along, deeper than a path leads.
	p := newPlay(t, s)
	s = plays(p, s, mkdir("/d/e/f/g"), mkdir("/x"), mkdir("/x/y"), mkdir("/x/y/z"), rename("/d", "/x/y/z/d"), list("/x/y/z/d"), stat("/x/y/z/d"), rename("/x/y/z/d", "/x/y/d"))
	plays(p, s, rename("/x/y", "/y"), list("/y/d/e/f"), rmdir("/y/d/e/f/g"), rmdir("/y/d/e/f"), list("/y/d/e"))
}

// P22.2: descriptors that are none, and places and lengths beyond a file, for each call on a file.
func TestWrongFiles(t *testing.T) {
	s := newState(t, 2, create("/a"), opening("/a"), opening("/a"), closing(0), write(1, 0, "data"))
	for _, fd := range []int{math.MinInt, -1, 0, 2, 3, 4, 1 << 32, math.MaxInt} {
		answers(t, s, api.EBADF, closing(fd), read(fd, 0, 1), read(fd, -1, 257), write(fd, 0, "x"), write(fd, -1, fill('x', 300)), truncate(fd, 1), truncate(fd, -1), size(fd), fsync(fd))
	}
	answers(t, s, api.EBADF, by(1, closing(1)), by(1, read(1, 0, 1)), by(1, write(1, 0, "x")), by(1, truncate(1, 1)), by(1, size(1)), by(1, fsync(1)))
	for _, n := range []int{math.MinInt, -1, 257, 1 << 32, math.MaxInt} {
		answers(t, s, api.EINVAL, read(1, n, 1), read(1, 0, n), write(1, n, ""), write(1, n, "x"), truncate(1, n))
	}
	answers(t, s, api.EINVAL, write(1, 0, fill('x', 257)), write(1, 256, fill('x', 257)))
	answers(t, s, api.ENOSPC, write(1, 256, "x"), write(1, 1, fill('x', 256)), write(1, 129, fill('x', 128)))
	answers(t, s, api.CodeOK, write(1, 256, ""), write(1, 0, ""), read(1, 256, 256), write(1, 255, "x"), write(1, 0, fill('x', 256)), truncate(1, 256), truncate(1, 0))
}

// P22.2: bytes at each place around the ends of pages, of the file's halves and of the file.
func TestBytesOneByOne(t *testing.T) {
	edges := []int{0, 1, 15, 16, 17, 100, 127, 128, 129, 143, 144, 145, 200, 255, 256}
	for _, was := range edges {
		s := newState(t, 2, create("/a"), opening("/a"), write(0, 0, fill('o', was)), by(1, opening("/a")))
		for _, from := range edges {
			p := newPlay(t, s)
			at := s
			for _, to := range edges {
				if to >= from {
					at = plays(p, at, write(0, from, fill('n', to-from)), by(1, read(0, 0, 256)), size(0), read(0, to, 256), read(0, from, to-from))
				}
			}
			at = plays(p, at, truncate(0, from), by(1, read(0, 0, 256)), by(1, stat("/a")), truncate(0, was), by(1, read(0, 0, 256)))
			// Behind the end of a file that was shortened all bytes are 0.
			plays(p, at, truncate(0, 256), by(1, read(0, 0, 256)), truncate(0, from), write(0, 255, "!"), by(1, read(0, 0, 256)))
		}
	}
}

// P22.2: a file that is open and has no name is there till its last Close; one that has a
// name again under another is the same.
func TestOpenWithoutNames(t *testing.T) {
	s := newState(t, 3, create("/a"), opening("/a"), write(0, 0, "held"), by(1, opening("/a")))
	p := newPlay(t, s)
	s = plays(p, s, link("/a", "/b"), links("/a"), unlink("/a"), links("/b"), unlink("/b"), by(2, create("/a")), stat("/a"), by(1, read(0, 0, 9)), closing(0), by(1, write(0, 250, "still!")), by(1, read(0, 240, 16)), by(1, closing(0)))
	if len(s.Inodes) != 2 {
		t.Errorf("behind its last Close: %s", show(s))
	}
	plays(p, s, by(2, link("/a", "/b")), by(1, link("/a", "/c")), by(1, unlink("/a")), links("/b"), unlink("/c"), by(2, links("/b")), rename("/b", "/z"), links("/z"))
}

// P22.2: List tells all names, by their bytes rising.
func TestList(t *testing.T) {
	r := row(9)
	s := newState(t, 1, mkdir("/d"))
	for range 300 {
		one := oneOf(&r, "é", "日本", "z", "a", "~") + string(rune('!'+r.below(90)))
		s, _ = model.Do(s, link("/a", "/d/"+one))
		s, _ = model.Do(s, create("/a"))
	}
	p := newPlay(t, s)
	got := p.whole(list("/d"))
	if len(got.Names) < 20 || !slices.IsSorted(got.Names) {
		t.Errorf("%q", got.Names)
	}
	_, want := model.Do(s, list("/d"))
	if showResult(got) != showResult(want) {
		t.Errorf("%s, want %s", showResult(got), showResult(want))
	}
}

// P22.1: at the greatest depth, with all buckets full and all cores, no step touches more than MaxTouch words.
func TestTouchAtDepth(t *testing.T) {
	s := newState(t, api.MaxCores, mkdir("/a"), mkdir("/a/a"), mkdir("/a/a/a"), mkdir("/full"), create("/a/a/a/f"), mkdir("/b"), mkdir("/b/b"), mkdir("/b/b/b"), mkdir("/b/b/b/e"))
	for core := range api.MaxCores {
		s = do(t, s, by(core, opening("/a/a/a/f")), by(core, opening("/a/a/a/f")), by(core, opening("/a/a/a/f")))
	}
	for r := '!'; r < 'ɐ'; r++ {
		s, _ = model.Do(s, link("/a/a/a/f", "/full/"+string(r)))
	}
	if got := len(entriesOf(s, 26)); got != api.Buckets*api.MaxSlots {
		t.Fatalf("%d names", got)
	}
	calls := []api.Call{rename("/full", "/a/a/a/full"), list("/a/a/a/full"), rmdir("/a/a/a/full"), links("/a/a/a/f"), rmdir("/b/b/b/e"), stat("/a/a/a/f"), opening("/a/a/a/f"), create("/a/a/a/g")}
	calls = append(calls, mkdir("/a/a/a/h"), link("/a/a/a/f", "/b/b/b/f"), rename("/a/a/a/f", "/b/b/b/g"), unlink("/b/b/b/f"), rename("/a/a/a/full", "/b/b/b/full"))
	for _, c := range []api.Call{read(0, 0, 256), read(0, 17, 200), write(0, 3, fill('x', 250)), truncate(0, 0), truncate(0, 100), truncate(0, 256)} {
		calls = append(calls, c, read(0, 0, 256), size(0))
	}
	p := newPlay(t, s)
	for _, c := range calls {
		s = plays(p, s, by(api.MaxCores-1, c))
	}
}
