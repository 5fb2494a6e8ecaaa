package commute_test

import (
	"fmt"
	"math"
	"slices"
	"strings"
	"testing"

	"concourse/api"
	"concourse/commute"
	"concourse/model"
)

// aState is of two cores, or more: /a is /d/a too, open by the first two as 0, of 64 bytes; /b has one name, and is
// open by these as 1; /d/s holds /d/s/c; /e is empty.
func aState(t *testing.T, cores int) api.State {
	t.Helper()
	return newState(t, cores, mkdir("/d"), create("/a"), link("/a", "/d/a"), create("/b"), mkdir("/d/s"), create("/d/s/c"), mkdir("/e"),
		opening("/a"), by(1, opening("/a")), opening("/b"), by(1, opening("/b")), write(0, 0, fill('x', 64)))
}

// allCalls are calls of core 0, of each kind, that answer CodeOK at aState.
func allCalls() []api.Call {
	return []api.Call{
		create("/n"), mkdir("/d/n"), opening("/b"), closing(0), read(0, 0, 9), write(0, 16, "y"), truncate(0, 3), size(0), link("/a", "/e/n"),
		unlink("/d/a"), rmdir("/e"), rename("/d/s", "/e/s"), list("/d"), stat("/a"), links("/a"), fsync(0), syncing(),
	}
}

// P24.1: calls that only look commute, whatever they answer.
func TestLookingCommutes(t *testing.T) {
	s := aState(t, 2)
	var looking []api.Call
	for _, p := range []string{"/", "/a", "/d", "/d/a", "/x", "/x/y", "/a/x", "", "/1234567890123"} {
		looking = append(looking, list(p), stat(p), links(p))
	}
	for fd := range 3 {
		looking = append(looking, size(fd), read(fd, 0, 64), read(fd, 60, 9), read(fd, -1, 9), fsync(fd))
	}
	looking = append(looking, syncing(), create("/a"), mkdir("/a"), opening("/d"), unlink("/x"), rmdir("/d"), rename("/a", "/b"), link("/d", "/n"), write(0, 300, "x"), write(0, 9, ""), truncate(0, -1), truncate(0, 64), write(0, 0, "x"))
	for _, a := range looking {
		for _, b := range looking {
			wantCommute(t, s, a, b, true)
		}
	}
}

// P24.1: two that make one name do not commute: the first alone makes it.
func TestOneName(t *testing.T) {
	s := aState(t, 2)
	for _, p := range []string{"/n", "/d/n", "/d/s/n"} {
		makers := []api.Call{create(p), mkdir(p), link("/a", p), rename("/b", p), rename("/e", p)}
		for _, a := range makers {
			for _, b := range makers {
				wantCommute(t, s, a, b, false)
			}
			wantCommute(t, s, a, create(p+"x"), true)
			wantCommute(t, s, a, unlink(p), false)
			wantCommute(t, s, a, stat(p), false)
			wantCommute(t, s, a, list(p[:max(1, strings.LastIndex(p, "/"))]), false)
		}
	}
}

// P24.1: two that open commute, of one file too; one that opens a last name does not with what takes that away.
func TestTwoOpen(t *testing.T) {
	s := aState(t, 2)
	for _, p := range []string{"/a", "/b", "/d/a", "/x", "/d"} {
		wantCommute(t, s, opening("/a"), opening(p), true)
		wantCommute(t, s, opening(p), opening(p), true)
		wantCommute(t, s, opening(p), closing(0), true)
	}
	full := do(t, s, opening("/a"), opening("/a"))
	wantPlain(t, full, opening("/a"), by(1, opening("/a")))
	if !commute.Commute(full, opening("/a"), by(1, opening("/a"))) {
		t.Error("one that has no descriptor left, and one that has")
	}
	wantCommute(t, s, opening("/b"), unlink("/b"), false)
	wantCommute(t, s, opening("/a"), unlink("/a"), false)
	wantCommute(t, s, opening("/d/a"), unlink("/a"), true)
	wantCommute(t, s, opening("/a"), rename("/d/a", "/n"), true)
	wantCommute(t, s, opening("/n"), create("/n"), false)
}

// P24.1: one is refused in one row alone.
func TestRefusedInOneRow(t *testing.T) {
	s := aState(t, 2)
	for _, two := range [][2]api.Call{
		{create("/n/m"), mkdir("/n")}, {unlink("/n"), create("/n")}, {rmdir("/n"), mkdir("/n")}, {rmdir("/e"), create("/e/n")}, {rmdir("/e"), rename("/a", "/e/n")}, {list("/e"), rmdir("/e")}, {stat("/b"), unlink("/b")},
		{unlink("/b"), unlink("/b")}, {rename("/b", "/n"), unlink("/b")}, {rename("/b", "/n"), rename("/b", "/m")}, {rename("/d", "/e/d"), rename("/e", "/d/e")}, {link("/b", "/n"), unlink("/b")}, {opening("/n"), link("/a", "/n")},
		{create("/a"), unlink("/a")}, {create("/d/s/n"), rename("/d/s", "/n")}, {rmdir("/d/s"), unlink("/d/s/c")}, {rmdir("/d/s"), rename("/d/s/c", "/n")},
	} {
		wantCommute(t, s, two[0], two[1], false)
	}
	tight := do(t, s, create("/i"), create("/q"))
	for _, a := range []api.Call{create("/y"), mkdir("/y"), link("/a", "/y"), rename("/b", "/y")} {
		wantCommute(t, tight, a, create("/A"), false)
		wantCommute(t, tight, a, unlink("/q"), true)
		wantCommute(t, do(t, tight, create("/Q")), a, unlink("/q"), false)
		wantCommute(t, do(t, tight, create("/Q")), a, create("/A"), true)
	}
}

// P24.1: the state alone is another, or one answer alone is.
func TestOneThingDiffers(t *testing.T) {
	s := aState(t, 2)
	for _, two := range [][2]api.Call{
		{write(0, 0, "v"), write(0, 0, "w")}, {write(0, 0, fill('v', 9)), write(0, 8, fill('w', 9))}, {write(0, 0, "v"), truncate(0, 0)}, {truncate(0, 3), truncate(0, 4)}, {write(0, 80, "v"), truncate(0, 70)}, {truncate(0, 3), truncate(0, 99)},
		{size(0), truncate(0, 9)}, {size(0), write(0, 64, "w")}, {stat("/a"), truncate(0, 9)}, {stat("/a"), write(0, 200, "w")}, {read(0, 60, 9), write(0, 64, "x")}, {read(0, 0, 9), write(0, 8, "w")}, {read(0, 63, 1), truncate(0, 63)},
		{links("/a"), unlink("/d/a")}, {links("/a"), link("/a", "/n")}, {list("/e"), create("/e/n")}, {list("/"), rmdir("/e")}, {stat("/n"), mkdir("/n")}, {stat("/b"), rename("/b", "/n")}, {links("/b"), rename("/b", "/n")},
	} {
		wantCommute(t, s, two[0], two[1], false)
	}
	for _, two := range [][2]api.Call{
		{write(0, 0, "w"), write(0, 0, "w")}, {truncate(0, 3), truncate(0, 3)}, {write(0, 0, fill('v', 8)), write(0, 8, fill('w', 9))}, {size(0), truncate(0, 64)}, {size(0), write(0, 63, "w")}, {read(0, 0, 9), write(0, 9, "w")}, {read(0, 0, 9), write(0, 8, "x")}, {write(0, 70, "w"), write(0, 90, "v")},
		{links("/a"), rename("/d/a", "/d/n")}, {links("/a"), create("/n")}, {list("/"), create("/e/n")}, {unlink("/b"), closing(1)}, {closing(0), closing(0)}, {unlink("/a"), unlink("/d/a")}, {rename("/a", "/n"), write(0, 64, "w")}, {read(0, 0, 0), truncate(0, 0)},
		{create("/n"), create("/m")}, {create("/n"), mkdir("/m")}, {rename("/a", "/n"), rename("/b", "/m")}, {rename("/d", "/n"), create("/e/n")}, {closing(0), truncate(0, 3)},
	} {
		wantCommute(t, s, two[0], two[1], true)
	}
}

// wantNeither fails unless two calls neither commute nor are apart, either way round.
func wantNeither(t *testing.T, what string, s api.State, a, b api.Call) {
	t.Helper()
	for _, two := range [][2]api.Call{{a, b}, {b, a}} {
		if commute.Commute(s, two[0], two[1]) || commute.Apart(s, two[0], two[1]) {
			t.Errorf("%s: commute %t, apart %t: %+v, %+v", what, commute.Commute(s, two[0], two[1]), commute.Apart(s, two[0], two[1]), two[0], two[1])
		}
	}
}

// wantBoth fails unless two calls commute and are apart, either way round.
func wantBoth(t *testing.T, s api.State, a, b api.Call) {
	t.Helper()
	for _, two := range [][2]api.Call{{a, b}, {b, a}} {
		if !commute.Commute(s, two[0], two[1]) || !commute.Apart(s, two[0], two[1]) {
			t.Errorf("commute %t, apart %t: %+v, %+v", commute.Commute(s, two[0], two[1]), commute.Apart(s, two[0], two[1]), two[0], two[1])
		}
	}
}

// P24.1, P24.2: of one core no two commute, nor are apart, not even those that do by two cores.
func TestOneCore(t *testing.T) {
	s := aState(t, 3)
	for _, a := range allCalls() {
		for _, b := range append(allCalls(), stat("/x"), list("/d/s")) {
			for core := range 3 {
				wantNeither(t, "one core", s, by(core, a), by(core, b))
			}
		}
	}
	wantBoth(t, s, stat("/d/s"), by(1, stat("/x")))
	wantBoth(t, s, by(2, stat("/d/s")), by(1, stat("/x")))
}

// P24.1, P24.2: a Kind that is none.
func TestNoSuchKind(t *testing.T) {
	s := aState(t, 2)
	for _, kind := range []int{-1, -2, 17, 18, 99, math.MinInt, math.MaxInt} {
		none := api.Call{Kind: kind, Path: "/x", Path2: "/y"}
		wantNeither(t, "kind", s, none, by(1, none))
		for _, b := range allCalls() {
			wantNeither(t, "kind", s, none, by(1, b))
			wantNeither(t, "kind", s, by(1, none), b)
		}
	}
	for kind := range api.CallFsync {
		wantBoth(t, s, on(kind, "/x/y"), by(1, stat("/d/s")))
	}
}

// P24.1, P24.2: a Core that is none, and one that is a number but none of the state's.
func TestNoSuchCore(t *testing.T) {
	for _, cores := range []int{1, 2, 3, 8} {
		s := newState(t, cores, mkdir("/d"), create("/a"), opening("/a"))
		for _, core := range []int{-1, -2, cores, cores + 1, 8, 9, math.MinInt, math.MaxInt} {
			if core < cores && core >= 0 {
				continue
			}
			for _, a := range append(allCalls(), stat("/x")) {
				wantNeither(t, "core", s, by(core, a), stat("/x"))
				wantNeither(t, "core", s, by(core, a), by(core+1, stat("/x")))
				wantNeither(t, "core", s, by(core, a), by(core, a))
			}
		}
		for core := 1; core < cores; core++ {
			wantBoth(t, s, stat("/x"), by(core, stat("/y")))
		}
	}
}

// bad are states that may not be, each rule of chapter 13 broken alone, in which calls would find their way.
func bad(t *testing.T) map[string]api.State {
	t.Helper()
	all := map[string]api.State{"no state": {}, "empty lists": {Inodes: []api.Inode{}, Open: []api.Desc{}, Made: []int{}}}
	add := func(what string, turn func(s *api.State)) {
		s := aState(t, 3) // /d is 2, /a is 10, /b is 18, /d/s is 26, /d/s/c is 34, /e is 42
		turn(&s)
		all[what] = s
	}
	root := func(turn func(entries []api.Entry) []api.Entry) func(s *api.State) {
		return func(s *api.State) { s.Inodes[0].Entries = turn(s.Inodes[0].Entries) }
	}
	file := api.Entry{Num: 10}
	named := func(text string) api.Entry { return api.Entry{Name: text, Num: file.Num} }
	add("no cores", func(s *api.State) { s.Made = nil })
	add("9 cores", func(s *api.State) { s.Made = append(s.Made, 0, 0, 0, 0, 0, 0) })
	add("made below 0", func(s *api.State) { s.Made[2] = -1 })
	add("33 made", func(s *api.State) { s.Made[0] = 33 })
	add("made too few", func(s *api.State) { s.Made[0] = 5 })
	add("of no core of these", func(s *api.State) {
		s.Inodes = append(s.Inodes, api.Inode{Num: 45})
		s.Inodes[0].Entries = append(s.Inodes[0].Entries, api.Entry{Name: "z", Num: 45})
	})
	add("no root", func(s *api.State) { s.Inodes = s.Inodes[1:] })
	add("the root is a file", func(s *api.State) { *s = api.State{Inodes: []api.Inode{{Num: 1}}, Made: []int{0, 0}} })
	add("they fall", func(s *api.State) { s.Inodes[2], s.Inodes[3] = s.Inodes[3], s.Inodes[2] })
	add("twice", func(s *api.State) { s.Inodes = slices.Insert(s.Inodes, 3, s.Inodes[3]) })
	add("a directory with bytes", func(s *api.State) { s.Inodes[1].Data = "x" })
	add("257 bytes", func(s *api.State) { s.Inodes[2].Data = fill('x', 257) })
	add("a file with entries", func(s *api.State) { s.Inodes[2].Entries = []api.Entry{named("x")} })
	add("names fall", root(func(entries []api.Entry) []api.Entry { slices.Reverse(entries); return entries }))
	add("names alike", root(func(entries []api.Entry) []api.Entry { return slices.Insert(entries, 0, entries[0]) }))
	add("a name that may not be", root(func(entries []api.Entry) []api.Entry { return slices.Insert(entries, 0, named("..")) }))
	add("five of one bucket", root(func(entries []api.Entry) []api.Entry {
		return append(append([]api.Entry{named("A"), named("I")}, entries...), named("i"), named("q"))
	}))
	add("no such inode", root(func(entries []api.Entry) []api.Entry { return append(entries, api.Entry{Name: "z", Num: 99}) }))
	add("an entry of the root", root(func(entries []api.Entry) []api.Entry { return append(entries, api.Entry{Name: "z", Num: 1}) }))
	add("a directory twice", root(func(entries []api.Entry) []api.Entry { return append(entries, api.Entry{Name: "z", Num: 2}) }))
	add("a directory without entry", func(s *api.State) { s.Inodes = append(s.Inodes, api.Inode{Num: 50, Dir: true}); s.Made[0] = 7 })
	add("a ring", func(s *api.State) {
		s.Inodes = append(s.Inodes, api.Inode{Num: 50, Dir: true, Entries: []api.Entry{{Name: "r", Num: 50}}})
		s.Made[0] = 7
	})
	add("a file without entry", func(s *api.State) { s.Inodes = append(s.Inodes, api.Inode{Num: 50}); s.Made[0] = 7 })
	add("an fd too great", func(s *api.State) { s.Open = append(s.Open, api.Desc{Core: 2, Fd: 4, Num: 10}) })
	add("an fd below 0", func(s *api.State) { s.Open = append(s.Open, api.Desc{Core: 2, Fd: -1, Num: 10}) })
	add("no such core", func(s *api.State) { s.Open = append(s.Open, api.Desc{Core: 3, Num: 10}) })
	add("an open directory", func(s *api.State) { s.Open = append(s.Open, api.Desc{Core: 2, Num: 2}) })
	add("an open file that is not", func(s *api.State) { s.Open = append(s.Open, api.Desc{Core: 2, Num: 50}) })
	add("descriptors fall", func(s *api.State) { slices.Reverse(s.Open) })
	return all
}

// P24.1, P24.2: at a state that may not be nothing commutes or is apart.
func TestStatesThatMayNot(t *testing.T) {
	s := aState(t, 3)
	for what, none := range bad(t) {
		if model.May(none) {
			t.Fatalf("%s: may be", what)
		}
		for _, a := range append(allCalls(), stat("/x"), size(3)) {
			wantNeither(t, what, none, a, by(1, stat("/x")))
			wantNeither(t, what, none, by(1, a), read(3, 0, 1))
			wantNeither(t, what, none, by(1, a), by(2, a))
		}
	}
	wantBoth(t, s, by(1, stat("/x")), stat("/e"))
	s.Made = []int{32, 32, 32, 32, 32, 32, 32, 32}
	wantBoth(t, s, by(7, create("/n")), by(6, create("/m")))
}

// P24.2: Fsync and Sync are never apart from any, of one that they have nothing to do with neither; they may commute.
func TestSyncs(t *testing.T) {
	s := aState(t, 2)
	for _, b := range append(allCalls(), stat("/x"), list("/e"), size(3)) {
		for _, a := range []api.Call{fsync(0), fsync(1), fsync(3), fsync(-1), syncing()} {
			wantPoints(t, s, a, b, "-")
			wantCommute(t, s, a, b, true)
		}
	}
	last := []api.Call{fsync(0), fsync(1), syncing()}
	for _, a := range last {
		for _, b := range last {
			wantCommute(t, s, a, b, true)
			wantPoints(t, s, a, b, "-")
		}
	}
}

// P24.1: cores make inodes by numbers of their own, so that two that make some commute up to the last one.
func TestNumbersOfCores(t *testing.T) {
	for _, made := range [][]int{{31, 31}, {31, 32}, {32, 32}, {32, 6}} {
		s := aState(t, 2)
		s.Made = made
		t.Run(fmt.Sprint(made), func(t *testing.T) {
			for _, two := range [][2]api.Call{{create("/n"), create("/m")}, {mkdir("/d/n"), create("/e/n")}, {mkdir("/n"), link("/a", "/m")}} {
				for _, cores := range [][2]int{{0, 1}, {1, 0}} {
					wantBoth(t, s, by(cores[0], two[0]), by(cores[1], two[1]))
				}
			}
		})
	}
}
