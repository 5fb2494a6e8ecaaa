package memfs_test

import (
	"testing"

	"concourse/api"
)

// full is so many bytes that stand in both halves of a file.
func full(b byte) api.Call {
	return write(0, 0, fill(b, 256))
}

// oneFile is a state in which each core has /a open as 0, of so many bytes, which are x.
func oneFile(t *testing.T, cores, bytes int) api.State {
	t.Helper()
	s := newState(t, cores, mkdir("/d"), create("/a"), link("/a", "/d/a"))
	for core := range cores {
		s = do(t, s, by(core, opening("/a")))
	}
	return do(t, s, write(0, 0, fill('x', bytes)))
}

// onFile are calls on one file that go for the same bytes: across its halves, within one
// of them, at its end and beyond it.
func onFile() []api.Call {
	return []api.Call{
		full('F'), write(0, 100, fill('M', 60)), write(0, 7, fill('L', 100)), write(0, 127, "tt"), write(0, 130, fill('H', 100)), write(0, 190, fill('E', 40)), write(0, 250, "!"), write(0, 3, ""),
		read(0, 0, 256), read(0, 100, 60), read(0, 20, 60), read(0, 140, 116), read(0, 120, 16),
		truncate(0, 0), truncate(0, 90), truncate(0, 140), truncate(0, 200), truncate(0, 256),
		size(0), stat("/a"), fsync(0), closing(0), links("/d/a"), unlink("/a"),
	}
}

// P22.2: each two calls on one file, by all picks.
func TestPairsOnOneFile(t *testing.T) {
	t.Parallel()
	for _, bytes := range []int{0, 60, 128, 200, 256} {
		s := oneFile(t, 2, bytes)
		for i, a := range onFile() {
			for _, b := range onFile()[i:] {
				wantAllLegal(t, s, 10, calls(a), calls(b))
			}
		}
	}
}

// P22.2: Writes, Truncates and Reads of three cores on one file, by all picks.
func TestTriplesOnOneFile(t *testing.T) {
	t.Parallel()
	s := oneFile(t, 3, 200)
	for _, three := range [][]api.Call{
		{full('F'), full('G'), read(0, 0, 256)}, {full('F'), truncate(0, 90), read(0, 0, 256)}, {truncate(0, 90), truncate(0, 140), read(0, 0, 256)},
		{write(0, 100, fill('M', 60)), write(0, 190, fill('E', 40)), read(0, 0, 256)}, {full('F'), read(0, 0, 256), read(0, 20, 236)}, {full('F'), truncate(0, 0), write(0, 250, "!")},
		{full('F'), size(0), stat("/d/a")}, {truncate(0, 90), write(0, 180, fill('E', 40)), size(0)}, {full('F'), truncate(0, 100), full('G')}, {truncate(0, 256), full('F'), truncate(0, 10)},
		{write(0, 100, fill('M', 60)), write(0, 7, fill('L', 100)), read(0, 0, 256)}, {write(0, 130, fill('H', 100)), write(0, 7, fill('L', 100)), read(0, 0, 256)},
	} {
		wantAllLegal(t, s, 8, calls(three[0]), calls(three[1]), calls(three[2]))
	}
}

// P22.2: a core whose calls bring back what was there, while another one's call is under way.
func TestThereAndBack(t *testing.T) {
	t.Parallel()
	s := oneFile(t, 2, 200)
	back := write(0, 0, fill('x', 200))
	for _, turns := range [][]api.Call{
		{write(0, 0, fill('F', 200)), back}, {write(0, 190, fill('E', 40)), write(0, 190, "cccc"), truncate(0, 200)}, {truncate(0, 90), back}, {truncate(0, 190), write(0, 190, fill('x', 10))},
		{write(0, 0, "y"), write(0, 190, "y"), write(0, 0, "x"), write(0, 190, "x")}, {truncate(0, 150), truncate(0, 200)}, {truncate(0, 220), truncate(0, 200)}, {write(0, 220, "z"), truncate(0, 120), back},
	} {
		for _, other := range []api.Call{read(0, 0, 256), read(0, 50, 150), full('G'), truncate(0, 100), size(0)} {
			wantAllLegal(t, s, 12, turns, calls(other))
		}
	}
}

// P22.2: a Read of a file's two halves never tells one ahead of a Write and one behind it.
func TestNoHalfWrite(t *testing.T) {
	s := oneFile(t, 2, 256)
	told := map[string]struct{}{}
	allPicks(t, s, 12, [][]api.Call{calls(full('F')), calls(read(0, 0, 256), read(0, 0, 256))}, func(p *play) {
		for _, o := range p.ops {
			if o.Call.Kind == api.CallRead {
				told[o.Result.Data] = struct{}{}
			}
		}
	})
	for _, b := range []byte("xF") {
		if _, is := told[fill(b, 256)]; !is {
			t.Errorf("no Read tells %c alone", b)
		}
		delete(told, fill(b, 256))
	}
	if len(told) != 0 {
		t.Errorf("%q", told)
	}
}

// aTree is a state of two directories with a file and a directory in each.
func aTree(t *testing.T, cores int) api.State {
	t.Helper()
	s := newState(t, cores, mkdir("/d"), mkdir("/e"), create("/d/a"), mkdir("/d/s"), create("/e/b"), mkdir("/e/t"), create("/a"), mkdir("/empty"))
	for core := range cores {
		s = do(t, s, by(core, opening("/a")))
	}
	return s
}

// onNames are calls that go for the same names.
func onNames() []api.Call {
	return []api.Call{
		create("/n"), mkdir("/n"), link("/a", "/n"), rename("/a", "/n"), rename("/d", "/n"), create("/d/n"), link("/a", "/d/n"), rename("/a", "/d/n"), rename("/d", "/e/n"), rename("/e", "/d/n"),
		rename("/d", "/empty/d"), rename("/empty", "/d/n"), create("/empty/x"), link("/a", "/empty/x"), rename("/a", "/empty/x"), rename("/d/s", "/e/t/s"), rename("/e/t", "/d/s/t"), mkdir("/d/s/x"),
		unlink("/a"), unlink("/d/a"), rmdir("/empty"), rmdir("/d"), rmdir("/d/s"), rmdir("/e/t"), opening("/a"), opening("/d/a"), opening("/n"), closing(0), list("/"), list("/d"), list("/empty"), list("/e/n"),
		stat("/d/a"), stat("/empty"), stat("/n"), links("/a"), links("/n"), fsync(0), size(0), api.Call{Kind: api.CallSync},
	}
}

// P22.2: each two calls that go for the same names, by all picks, from a state in which there is room, and from one in which there is little.
func TestPairsOnNames(t *testing.T) {
	t.Parallel()
	roomy := aTree(t, 2)
	tight := do(t, roomy, create("/A"), create("/I"), create("/Q"), link("/A", "/d/A"), link("/A", "/d/I"), link("/A", "/d/Q"))
	tight.Made = []int{31, 32}
	for _, s := range []api.State{roomy, tight} {
		for _, a := range onNames() {
			for _, b := range onNames() {
				wantAllLegal(t, s, 8, calls(a), calls(b))
			}
		}
	}
}

// P22.2: three calls that go for the same names, by all picks.
func TestTriplesOnNames(t *testing.T) {
	s := aTree(t, 3)
	for _, three := range [][]api.Call{
		{create("/n"), create("/n"), create("/n")}, {mkdir("/n"), link("/a", "/n"), rename("/d", "/n")}, {unlink("/a"), unlink("/a"), rename("/a", "/n")}, {rmdir("/empty"), rmdir("/empty"), create("/empty/x")},
		{rename("/a", "/n"), rename("/a", "/m"), stat("/a")}, {rename("/d", "/e/n"), rename("/e", "/d/n"), list("/d")}, {rename("/d/s", "/e/t/s"), rename("/e/t", "/d/s/t"), rename("/d", "/e/t/d")},
		{rmdir("/empty"), rename("/a", "/empty/x"), list("/empty")}, {rename("/d", "/m"), create("/d/x"), opening("/d/a")}, {unlink("/a"), opening("/a"), closing(0)}, {list("/"), create("/n"), rename("/n", "/m")},
		{links("/a"), link("/a", "/n"), unlink("/a")}, {rename("/a", "/b"), rename("/b", "/c"), rename("/c", "/a")},
	} {
		wantAllLegal(t, s, 12, calls(three[0]), calls(three[1]), calls(three[2]))
	}
}

// P22.2: two that take the last slot of a bucket, and two of a core's last numbers.
func TestLastRoom(t *testing.T) {
	n := fourOf(t, 3)
	s := newState(t, 3, mkdir("/d"), create("/a"))
	for _, own := range n[:3] {
		s = do(t, s, create("/d/"+own))
	}
	s.Made = []int{31, 31, 31}
	one, two := "/d/"+n[3], "/d/"+n[4]
	for _, a := range []api.Call{create(one), mkdir(one), link("/a", one), rename("/a", one), rename("/d/"+n[0], one)} {
		for _, b := range []api.Call{create(two), mkdir(two), link("/a", two), rename("/a", two), unlink("/d/" + n[0]), rename("/d/"+n[0], two)} {
			wantAllLegal(t, s, 12, calls(a), calls(b), calls(list("/d")))
			wantAllLegal(t, s, 12, calls(a, create("/x")), calls(b, create("/y")))
		}
	}
}

// P22.2: rows of calls of one core, each behind the one ahead, while another core's are under way.
func TestRowsOfTwoCores(t *testing.T) {
	t.Parallel()
	s := aTree(t, 2)
	for _, two := range [][2][]api.Call{
		{calls(create("/n"), rename("/n", "/m"), unlink("/m")), calls(list("/"), list("/"), list("/"))},
		{calls(unlink("/a"), closing(0)), calls(write(0, 0, fill('w', 200)), read(0, 0, 256), closing(0))},
		{calls(rename("/d", "/e/d"), rename("/e/d", "/d")), calls(opening("/d/a"), opening("/e/d/a"), list("/d"))},
		{calls(full('1'), full('2')), calls(read(0, 0, 256), full('3'))},
		{calls(full('1'), size(0), truncate(0, 100)), calls(read(0, 0, 256), size(0), write(0, 90, fill('3', 100)))},
		{calls(link("/a", "/n"), unlink("/a"), unlink("/n")), calls(links("/a"), opening("/n"), links("/n"))},
	} {
		wantAllLegal(t, s, 12, two[0], two[1])
	}
}
