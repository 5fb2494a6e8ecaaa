package memfs_test

import (
	"testing"

	"concourse/api"
)

// meeting gives a word that one of two cores writes and the other touches, or -1.
func meeting(a, b []api.Access) int {
	for _, x := range a {
		for _, y := range b {
			if x.At == y.At && (x.Write || y.Write) {
				return x.At
			}
		}
	}
	return -1
}

// wantNoMeeting plays two calls by all picks, in none of which they may meet.
func wantNoMeeting(t *testing.T, s api.State, a, b api.Call) {
	t.Helper()
	scripts := make([][]api.Call, len(s.Made))
	scripts[a.Core], scripts[b.Core] = calls(a), calls(b)
	allPicks(t, s, 8, scripts, func(p *play) {
		if at := meeting(p.f.Trace(a.Core), p.f.Trace(b.Core)); at >= 0 {
			t.Fatalf("word %d: %v and %v\n%sfrom\n%s", at, p.f.Trace(a.Core), p.f.Trace(b.Core), p.told(), show(s))
		}
	})
}

// forMeeting is a state with many files open, of all sizes, with several names each, and
// with some that have none.
func (r *row) forMeeting(t *testing.T) api.State {
	t.Helper()
	s := newState(t, 3, mkdir("/d"), mkdir("/e"), mkdir("/d/s"), create("/a"), create("/d/a"), create("/b"), link("/a", "/d/l"), link("/a", "/e/l"), create("/gone"))
	for core := range 3 {
		for _, p := range []string{"/a", oneOf(r, "/b", "/a", "/gone"), "/d/a"} {
			s = do(t, s, by(core, opening(p)))
		}
		s = do(t, s, by(core, write(r.below(3), oneOf(r, 0, 16, 100), fill('x', 1+r.below(156)))))
	}
	return do(t, s, unlink("/gone"))
}

// someMeeting is a call for such a state: of what there is, mostly one that answers CodeOK.
func (r *row) someMeeting(core int) api.Call {
	there := []string{"/a", "/b", "/d/a", "/d/l", "/e/l", "/d", "/e", "/d/s", "/", "/x", "/d/x"}
	fresh := []string{"/n", "/m", "/o", "/d/n", "/d/m", "/d/o", "/e/n", "/e/m", "/d/s/n", "/d/s/m", "/a/n"}
	c := api.Call{Kind: r.below(15), Core: core, Fd: r.below(4), Path: oneOf(r, there...), Path2: oneOf(r, fresh...)}
	switch c.Kind {
	case api.CallCreate, api.CallMkdir:
		c.Path = oneOf(r, fresh...)
	case api.CallWrite:
		c.Off, c.Data = 16*r.below(16), fill('w', r.below(60))
		if r.below(2) == 0 {
			c.Off = r.below(100)
		}
	case api.CallRead:
		c.Off, c.Num = r.below(200), r.below(100)
	case api.CallTruncate:
		c.Num = r.below(257)
	}
	return c
}

// P22.3: two calls that commute and are apart meet in no word, whatever the picks: all pairs of kinds, at drawn states.
func TestApartDoNotMeet(t *testing.T) {
	t.Parallel()
	r := row(3)
	seen := map[[2]int]int{}
	for range 900 {
		s := r.forMeeting(t)
		if r.below(3) == 0 {
			s = r.someState(t, 3, 60)
		}
		for range 12 {
			a, b := r.someMeeting(0), r.someMeeting(1+r.below(2))
			if r.below(5) == 0 {
				a, b = r.someCall(s, 0), r.someCall(s, 1)
			}
			if apart(s, a, b) && commute(s, a, b) {
				wantNoMeeting(t, s, a, b)
				seen[[2]int{min(a.Kind, b.Kind), max(a.Kind, b.Kind)}]++
			}
		}
	}
	for a := range api.CallFsync {
		for b := a; b < api.CallFsync; b++ {
			if seen[[2]int{a, b}] == 0 {
				t.Errorf("no %s and %s that are apart", kindName(a), kindName(b))
			}
		}
	}
}

// P22.3: pairs that must be apart, one by one.
func TestWhoDoesNotMeet(t *testing.T) {
	s := oneFile(t, 2, 256)
	s = do(t, s, create("/b"), link("/a", "/d/l"), link("/a", "/e"), mkdir("/d/s"), mkdir("/f"), opening("/b"), by(1, opening("/b")))
	for _, two := range [][2]api.Call{
		{create("/n"), create("/m")}, {create("/d/n"), create("/d/m")}, {create("/n"), create("/d/n")}, {create("/d/n"), mkdir("/d/m")}, {mkdir("/n"), mkdir("/m")},
		{opening("/a"), opening("/a")}, {opening("/a"), opening("/d/l")}, {opening("/a"), closing(0)}, {opening("/a"), full('w')}, {opening("/a"), truncate(0, 0)}, {closing(0), truncate(0, 0)}, {closing(0), full('w')}, {closing(0), closing(0)},
		{read(0, 0, 256), read(0, 0, 256)}, {read(0, 0, 128), write(0, 128, fill('w', 128))}, {read(0, 128, 128), write(0, 0, fill('w', 128))}, {read(0, 0, 112), write(0, 112, fill('w', 40))}, {read(0, 0, 240), write(0, 240, fill('w', 16))}, {read(0, 16, 240), write(0, 0, fill('w', 16))},
		{write(0, 0, fill('v', 16)), write(0, 16, fill('w', 240))}, {write(0, 0, fill('v', 144)), write(0, 144, fill('w', 112))}, {write(0, 15, "v"), write(0, 16, "w")}, {write(0, 255, "v"), write(0, 0, fill('w', 240))}, {full('v'), read(0, 256, 256)}, {full('v'), read(0, 9, 0)}, {full('v'), write(0, 9, "")},
		{stat("/a"), full('w')}, {size(0), full('w')}, {stat("/d/l"), write(0, 200, "w")}, {stat("/a"), size(0)}, {size(0), read(0, 0, 256)}, {stat("/d"), create("/d/n")}, {stat("/d"), unlink("/d/l")}, {stat("/"), create("/n")},
		{links("/a"), full('w')}, {links("/a"), truncate(0, 0)}, {links("/a"), links("/d/l")}, {links("/a"), create("/n")}, {links("/a"), opening("/a")}, {links("/a"), rename("/d/l", "/d/n")}, {links("/b"), link("/a", "/n")}, {links("/b"), unlink("/d/l")},
		{link("/a", "/n"), link("/a", "/m")}, {link("/a", "/n"), link("/d/l", "/d/m")}, {link("/a", "/n"), unlink("/d/l")}, {unlink("/d/l"), unlink("/e")}, {unlink("/d/l"), full('w')}, {unlink("/d/l"), truncate(0, 0)}, {link("/a", "/n"), read(0, 0, 256)}, {link("/a", "/n"), rename("/d/l", "/d/n")},
		{list("/d"), create("/n")}, {list("/d"), list("/d")}, {list("/"), create("/d/n")}, {list("/d"), full('w')}, {list("/d"), create("/d/s/n")}, {list("/"), rename("/d/l", "/d/n")}, {rmdir("/d/s"), create("/n")}, {rmdir("/f"), create("/d/n")}, {rmdir("/d/s"), rmdir("/f")},
		{rename("/a", "/n"), create("/d/n")}, {rename("/d/l", "/n"), create("/d/n")}, {rename("/d/s", "/k"), list("/f")}, {rename("/a", "/n"), full('w')}, {rename("/a", "/n"), truncate(0, 9)}, {unlink("/b"), create("/d/n")}, {create("/b"), create("/a")}, {rmdir("/d"), list("/d")},
	} {
		wantApartNotToMeet(t, s, two[0], two[1])
	}
}

// wantApartNotToMeet wants two calls, each of either core, to be apart and not to meet.
func wantApartNotToMeet(t *testing.T, s api.State, a, b api.Call) {
	t.Helper()
	for _, pair := range [][2]api.Call{{a, by(1, b)}, {by(1, a), b}} {
		if !apart(s, pair[0], pair[1]) || !commute(s, pair[0], pair[1]) {
			t.Errorf("%+v and %+v are not apart, or do not commute", pair[0], pair[1])
			continue
		}
		wantNoMeeting(t, s, pair[0], pair[1])
	}
}

// P22.3: at a file's end a Read has the pages of the bytes alone that it answers.
func TestReadAtTheEndDoesNotMeet(t *testing.T) {
	for _, bytes := range []int{1, 16, 17, 100, 127, 128, 129, 200, 255} {
		s := oneFile(t, 2, bytes)
		last := write(0, bytes-1, "w")
		for _, num := range []int{0, 1, 56, 256} {
			wantApartNotToMeet(t, s, read(0, bytes, num), last)
			wantApartNotToMeet(t, s, read(0, 256, num), write(0, 0, fill('w', bytes)))
		}
		wantApartNotToMeet(t, s, write(0, bytes, ""), last)
		wantApartNotToMeet(t, s, read(0, bytes-1, 0), last)
	}
}

// P22.1: a Trace tells what a call touches: of two that do not commute one must write what the other touches.
func TestWhoMeets(t *testing.T) {
	s := oneFile(t, 2, 200)
	for _, two := range [][2]api.Call{
		{create("/n"), create("/n")}, {create("/n"), list("/")}, {create("/n"), stat("/n")}, {full('w'), read(0, 0, 9)}, {full('w'), size(0)}, {truncate(0, 3), stat("/a")}, {unlink("/a"), opening("/a")},
		{link("/a", "/n"), links("/a")}, {rename("/d", "/n"), create("/d/x")}, {full('v'), full('w')}, {write(0, 100, "v"), write(0, 100, "w")}, {rename("/a", "/n"), rename("/a", "/m")},
	} {
		allPicks(t, s, 8, [][]api.Call{calls(two[0]), calls(two[1])}, func(p *play) {
			if meeting(p.f.Trace(0), p.f.Trace(1)) < 0 {
				t.Errorf("they do not meet: %s", p.told())
			}
		})
	}
}
