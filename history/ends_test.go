package history_test

import (
	"cmp"
	"fmt"
	"slices"
	"strings"
	"testing"

	"concourse/api"
	"concourse/model"
	"concourse/name"
)

// swapped gives a state in which two numbers have each other's place.
func swapped(s api.State, one, other int) api.State {
	turn := func(num int) int {
		switch num {
		case one:
			return other
		case other:
			return one
		}
		return num
	}
	own := api.State{Made: slices.Clone(s.Made), Open: slices.Clone(s.Open)}
	for _, x := range s.Inodes {
		x.Num = turn(x.Num)
		x.Entries = slices.Clone(x.Entries)
		for at := range x.Entries {
			x.Entries[at].Num = turn(x.Entries[at].Num)
		}
		own.Inodes = append(own.Inodes, x)
	}
	slices.SortFunc(own.Inodes, func(a, b api.Inode) int { return cmp.Compare(a.Num, b.Num) })
	for at := range own.Open {
		own.Open[at].Num = turn(own.Open[at].Num)
	}
	return own
}

// turnedStates gives states that may be, each unlike a state in a part of its own.
func turnedStates(t *testing.T, s api.State) []api.State {
	t.Helper()
	var all []api.State
	add := func(turn func(own *api.State)) {
		own := swapped(s, 0, 0)
		turn(&own)
		if model.May(own) && show(own) != show(s) {
			all = append(all, own)
		}
	}
	for core := range s.Made {
		for _, by := range []int{-1, 1, 2} {
			add(func(own *api.State) { own.Made[core] += by })
		}
	}
	add(func(own *api.State) { own.Made = append(own.Made, 0) })
	add(func(own *api.State) { own.Made = own.Made[:len(own.Made)-1] })
	for at := range s.Open {
		add(func(own *api.State) { own.Open = slices.Delete(own.Open, at, at+1) })
		for fd := range 4 {
			add(func(own *api.State) { own.Open[at].Fd = fd })
		}
		for core := range s.Made {
			add(func(own *api.State) { own.Open[at].Core = core })
		}
		for _, x := range s.Inodes {
			add(func(own *api.State) { own.Open[at].Num = x.Num })
		}
	}
	for at, x := range s.Inodes {
		add(func(own *api.State) { own.Inodes[at].Data += "\x00" })
		add(func(own *api.State) { own.Inodes[at].Data = strings.ToUpper(x.Data) })
		add(func(own *api.State) { own.Inodes[at].Data = "" })
		add(func(own *api.State) { own.Inodes[at].Dir = !x.Dir })
		add(func(own *api.State) { own.Inodes = slices.Delete(own.Inodes, at, at+1) })
		for _, other := range s.Inodes[1:] {
			add(func(own *api.State) { *own = swapped(*own, x.Num, other.Num) })
		}
		for k := range x.Entries {
			add(func(own *api.State) { own.Inodes[at].Entries[k].Name += "~" })
			add(func(own *api.State) { own.Inodes[at].Entries = slices.Delete(own.Inodes[at].Entries, k, k+1) })
			for _, other := range s.Inodes {
				add(func(own *api.State) { own.Inodes[at].Entries[k].Num = other.Num })
			}
		}
	}
	for _, c := range []api.Call{create("/~"), mkdir("/~"), opening("/a"), by(1, opening("/a")), rename("/a", "/~"), rename("/d", "/~"), link("/a", "/~"), unlink("/a"), rmdir("/d"), rename("/a", "/d/~")} {
		if behind, _ := model.Do(s, c); show(behind) != show(s) {
			all = append(all, behind)
		}
	}
	return all
}

// wantJust fails unless Ends tells just those states that the plain words tell, of these and all that are unlike in a part.
func wantJust(t *testing.T, s api.State, ops ...api.Op) map[string]api.State {
	t.Helper()
	ends := plain(s, ops)
	wantLegal(t, len(ends) > 0, s, ops...)
	states := turnedStates(t, s)
	for _, last := range ends {
		wantEnds(t, true, s, last, ops...)
		states = append(states, turnedStates(t, last)...)
	}
	states = append(states, s)
	met := map[string]struct{}{}
	for _, last := range states {
		text := show(last)
		if _, was := met[text]; was {
			continue
		}
		met[text] = struct{}{}
		_, want := ends[text]
		wantEnds(t, want, s, last, ops...)
	}
	return ends
}

// P25.2: behind one call of each kind stands the state that it leaves, and no state that is unlike it in a part.
func TestEndsBehindOne(t *testing.T) {
	s := newState(t, 2, create("/a"), mkdir("/d"), link("/a", "/d/a"), opening("/a"), write(0, 0, "bytes"), by(1, create("/b")), by(1, opening("/b")), unlink("/b"))
	calls := []api.Call{
		create("/n"), by(1, create("/d/n")), mkdir("/n"), opening("/a"), by(1, opening("/a")), closing(0), by(1, closing(0)), read(0, 0, 9), write(0, 5, "more"), write(0, 0, "bytes"), truncate(0, 2),
		size(0), link("/a", "/n"), unlink("/a"), unlink("/d/a"), rmdir("/d"), rename("/a", "/n"), rename("/d", "/n"), list("/"), stat("/a"), links("/a"), fsync(0), syncing(), create("/a"),
	}
	for _, c := range calls {
		behind, r := model.Do(s, c)
		ends := wantJust(t, s, answered(c, r, 0, 1))
		if _, is := ends[show(behind)]; !is || len(ends) != 1 {
			t.Errorf("%+v: %d ends", c, len(ends))
		}
		want := 1
		if show(behind) != show(s) {
			want = 2
		}
		if ends := wantJust(t, s, going(c, 0)); len(ends) != want {
			t.Errorf("%+v under way: %d ends", c, len(ends))
		}
	}
}

// P25.2: who made its inode first is seen by its number: each row of calls ends at a state of its own.
func TestEndsTellWhoWasFirst(t *testing.T) {
	s := newState(t, 2)
	ops := []api.Op{op(create("/a"), 0, 0, 9), op(mkdir("/b"), 0, 0, 9), op(create("/c"), 0, 0, 9), op(mkdir("/d"), 0, 0, 9)}
	if ends := wantJust(t, s, ops...); len(ends) != 24 {
		t.Errorf("%d ends of one core's", len(ends))
	}
	ops[1].Began, ops[0].Ended = 5, 5
	if ends := wantJust(t, s, ops...); len(ends) != 12 {
		t.Errorf("%d ends of one core's, where one is ahead of one", len(ends))
	}
	for at := range ops {
		ops[at].Call.Core = at % 2
	}
	if ends := wantJust(t, s, ops...); len(ends) != 4 {
		t.Errorf("%d ends of two cores'", len(ends))
	}
	under := []api.Op{going(create("/a"), 0), going(create("/b"), 0), going(mkdir("/c"), 0)}
	if ends := wantJust(t, s, under...); len(ends) != 1+3+6+6 {
		t.Errorf("%d ends of calls under way", len(ends))
	}
}

// P25.2: numbers that were made and are gone again stand between those that are there.
func TestEndsBesideWhatIsGone(t *testing.T) {
	s := newState(t, 2, create("/u"), by(1, create("/v")))
	for _, ops := range [][]api.Op{
		{op(create("/a"), 0, 0, 9), op(create("/b"), 0, 0, 9), op(unlink("/a"), 0, 0, 9), op(create("/c"), 0, 0, 9)},
		{op(create("/a"), 0, 0, 9), op(unlink("/a"), 0, 0, 9), op(create("/a"), 0, 0, 9), op(create("/b"), 0, 0, 9)},
		{op(mkdir("/a"), 0, 0, 9), op(rmdir("/a"), 0, 0, 9), op(create("/a"), 0, 0, 9), going(mkdir("/a"), 0)},
		{op(create("/a"), 0, 0, 9), op(create("/b"), 0, 0, 9), op(by(1, create("/c")), 0, 0, 9), going(rename("/a", "/d"), 0), going(unlink("/b"), 0)},
		{op(create("/a"), 0, 0, 9), going(create("/a"), 0), going(unlink("/a"), 0), going(create("/b"), 0), going(unlink("/u"), 0)},
		{op(create("/a"), 0, 0, 9), op(mkdir("/b"), 0, 0, 9), op(rename("/a", "/b/a"), 0, 0, 9), op(create("/a"), 0, 0, 9)},
		{op(create("/a"), 0, 0, 9), answered(opening("/a"), api.Result{Fd: 2}, 0, 9), op(unlink("/a"), 0, 0, 9), op(create("/a"), 0, 0, 9), going(closing(2), 0)},
		{going(create("/a"), 0), going(create("/a"), 0), going(create("/b"), 0), going(unlink("/a"), 0), going(rename("/b", "/a"), 0)},
	} {
		if ends := wantJust(t, s, ops...); len(ends) == 0 {
			t.Errorf("%d ends of\n%s", len(ends), told(ops))
		}
	}
}

// P25.2: bytes, of which each row leaves others.
func TestEndsOfBytes(t *testing.T) {
	s := newState(t, 2, create("/a"), opening("/a"), by(1, opening("/a")), write(0, 0, "........"))
	wrote := func(core, off int, data string) api.Op {
		return answered(by(core, write(0, off, data)), api.Result{Num: len(data)}, 0, 9)
	}
	ops := []api.Op{wrote(0, 0, "aaaa"), wrote(1, 2, "bbbb"), wrote(0, 3, "ccccccc"), op(by(1, truncate(0, 5)), 0, 0, 9)}
	if ends := wantJust(t, s, ops...); len(ends) < 12 {
		t.Errorf("%d ends", len(ends))
	}
	ops = append(ops[:3], answered(by(1, read(0, 1, 4)), api.Result{Data: "aab" + "c"}, 0, 9))
	wantJust(t, s, ops...)
	ops[3].Result.Data = "aaac"
	if ends := wantJust(t, s, append(ops, going(write(0, 3, "d"), 3))...); len(ends) == 0 {
		t.Error("no ends of a Read between")
	}
}

// P25.2: where nothing stands, or what stands turns nothing, the state at the beginning is the last.
func TestEndsAtTheBeginning(t *testing.T) {
	s := aState(t)
	reads := []api.Op{answered(stat("/a"), api.Result{Num: 10}, 0, 1), op(syncing(), 0, 0, 1), op(create("/a"), api.EEXIST, 2, 3)}
	wantEnds(t, true, s, s)
	wantEnds(t, true, s, s, reads...)
	for _, c := range []api.Call{create("/n"), unlink("/a"), write(0, 0, "x"), closing(0), by(2, opening("/a")), rename("/d", "/n"), rmdir("/e"), truncate(0, 0), link("/a", "/n"), mkdir("/n")} {
		behind := do(t, s, c)
		wantEnds(t, true, s, s, append(reads, going(c, 0))...)
		wantEnds(t, true, s, behind, append(reads, going(c, 0))...)
		wantEnds(t, false, s, behind, reads...)
		wantEnds(t, false, s, s, append(reads, op(c, 0, 0, 1))...)
	}
	c := create("/n")
	back := do(t, s, c, unlink("/n"))
	wantEnds(t, false, s, s, op(c, 0, 0, 1), op(unlink("/n"), 0, 0, 1))
	wantEnds(t, true, s, back, op(c, 0, 0, 1), op(unlink("/n"), 0, 0, 1))
	wantEnds(t, true, s, s, op(link("/a", "/n"), 0, 0, 1), op(unlink("/n"), 0, 0, 1))
	wantEnds(t, true, s, s, op(rename("/a", "/n"), 0, 0, 1), op(rename("/n", "/a"), 0, 0, 1))
}

// P25.2: states that are one but for empty lists and nil end alike; the state's cores have to be as many.
func TestEndsAtTheSameState(t *testing.T) {
	s := newState(t, 2, create("/a"))
	last := do(t, s, mkdir("/d"))
	last.Open = []api.Desc{}
	for at := range last.Inodes {
		if len(last.Inodes[at].Entries) == 0 {
			last.Inodes[at].Entries = []api.Entry{}
		}
	}
	wantEnds(t, true, s, last, op(mkdir("/d"), 0, 0, 1))
	last.Made = append(last.Made, 0)
	wantEnds(t, false, s, last, op(mkdir("/d"), 0, 0, 1))
	last.Made = last.Made[:1]
	wantEnds(t, false, s, last, op(mkdir("/d"), 0, 0, 1))
}

// P25.2: Ends holds nowhere where Legal does not, whatever the last state is.
func TestEndsOnlyWhereLegal(t *testing.T) {
	s := newState(t, 2, create("/a"))
	ops := []api.Op{op(create("/b"), 0, 0, 1), op(by(1, create("/c")), 0, 0, 1), op(stat("/d"), 0, 0, 1), going(create("/e"), 0)}
	for _, last := range []api.State{s, do(t, s, create("/b")), do(t, s, create("/b"), by(1, create("/c"))), do(t, s, create("/e"), by(1, create("/c")), create("/b")), do(t, s, create("/d"))} {
		wantEnds(t, false, s, last, ops...)
	}
	wantJust(t, s, ops...)
}

// P25.2: states with many inodes of all cores, behind which a few calls turn little.
func TestEndsOfGreatStates(t *testing.T) {
	s := greatState(t)
	last := do(t, s, by(3, create("/7/n")), by(3, create("/6/n")), unlink("/0/0"), by(5, mkdir("/n")))
	ops := []api.Op{going(by(3, create("/6/n")), 0), op(by(3, create("/7/n")), 0, 0, 9), op(unlink("/0/0"), 0, 0, 9), op(by(5, mkdir("/n")), 0, 0, 9), going(by(5, rmdir("/n")), 0)}
	wantLegal(t, true, s, ops...)
	wantEnds(t, true, s, last, ops...)
	wantEnds(t, true, s, do(t, s, by(3, create("/7/n")), unlink("/0/0"), by(5, mkdir("/n"))), ops...)
	wantEnds(t, true, s, do(t, s, by(3, create("/6/n")), by(3, create("/7/n")), unlink("/0/0"), by(5, mkdir("/n"))), ops...)
	wantEnds(t, true, s, do(t, last, by(5, rmdir("/n"))), ops...)
	for _, c := range []api.Call{unlink("/1/1"), create("/2/n"), by(7, opening("/7/0")), rename("/0", "/zero"), by(3, unlink("/6/n")), rename("/3/3", "/3/n")} {
		wantEnds(t, false, s, do(t, last, c), ops...)
	}
	first, other := do(t, s, by(3, opening("/3/3"))), do(t, s, by(3, opening("/3/3")), by(3, write(0, 0, "turned")), by(3, closing(0)))
	wantEnds(t, false, s, first, ops...)
	wantEnds(t, false, s, other, ops...)
}

// greatState has nearly all inodes that eight cores can make: directories /0 to /7 of many files each, all of MaxFile
// bytes. In each directory the bucket of n is empty.
func greatState(t *testing.T) api.State {
	t.Helper()
	s := newState(t, 8)
	for core := range 8 {
		s = do(t, s, by(core, mkdir(fmt.Sprint("/", core))))
		for at := range 40 {
			path := fmt.Sprint("/", core, "/", at)
			behind, r := model.Do(s, by(core, create(path)))
			if r.Code != 0 || name.Bucket(fmt.Sprint(at)) == name.Bucket("n") {
				continue
			}
			s = do(t, behind, by(core, opening(path)), by(core, write(0, 0, strings.Repeat(string(rune('a'+core)), api.MaxFile))), by(core, closing(0)))
		}
	}
	if len(s.Inodes) != 1+8*29 {
		t.Fatalf("%d inodes", len(s.Inodes))
	}
	return s
}
