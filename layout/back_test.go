package layout_test

import (
	"slices"
	"strconv"
	"strings"
	"testing"

	"concourse/api"
	"concourse/layout"
	"concourse/model"
	"concourse/name"
	"concourse/shape"
)

// fullNames gives as many names as a directory has room for, of 12 bytes, rising.
func fullNames() []string {
	var all []string
	var slots [api.Buckets]int
	for at := 0; len(all) < api.Buckets*api.MaxSlots; at++ {
		one := "name.." + strconv.Itoa(100_000+at)
		if bucket := name.Bucket(one); slots[bucket] < api.MaxSlots {
			slots[bucket]++
			all = append(all, one)
		}
	}
	return all
}

// fullState is a state of as many cores and inodes as there may be: directories, all full but for the last one, and
// files of 256 bytes. Entries above those of the inodes are further names of the last file.
func fullState(directories int) api.State {
	s := api.State{Made: slices.Repeat([]int{api.MaxMade}, api.MaxCores)}
	const last = 257
	for num := 1; num <= last; num++ {
		x := api.Inode{Num: num, Dir: num <= directories}
		if !x.Dir {
			x.Data = strings.Repeat(string([]byte{byte(num)}), api.MaxFile)
		}
		s.Inodes = append(s.Inodes, x)
	}
	next := 2
	for at := range directories {
		for _, one := range fullNames() {
			s.Inodes[at].Entries = append(s.Inodes[at].Entries, api.Entry{Name: one, Num: min(next, last)})
			next++
		}
	}
	return s
}

// greatState is a full state of 8 directories, cut down to so many bytes.
func greatState(size int) api.State {
	s := fullState(8)
	left := len(summed(plainBody(s))) - size
	for at := len(s.Inodes) - 1; left > 0; at-- {
		cut := min(left, api.MaxFile-128) // the length keeps its two parts
		if left > api.MaxFile {
			cut = api.MaxFile
			left-- // a length of 0 has one part less
		}
		s.Inodes[at].Data = s.Inodes[at].Data[cut:]
		left -= cut
	}
	return s
}

// P19.1, P19.2: as many cores, inodes, entries and bytes as there may be. Bytes above MaxText are written, but no
// longer taken.
func TestFullStates(t *testing.T) {
	for _, directories := range []int{8, 9, 100, 200, 256} {
		s := fullState(directories)
		if !model.May(s) {
			t.Fatalf("%d directories may not be", directories)
		}
		b := summed(plainBody(s))
		if len(b) <= api.MaxText {
			t.Errorf("%d bytes only", len(b))
		}
		wantPut(t, s, b)
		wantForm(t, b)
	}
}

// P19.2: of all inodes that there may be, so little that it is taken.
func TestFullStatesThatAreTaken(t *testing.T) {
	for _, size := range []int{6000, 20_000, 40_000, 65_000, 65_535, 65_536} {
		s := greatState(size)
		if !model.May(s) || layout.Size(s) != size {
			t.Fatalf("%d bytes, not %d", layout.Size(s), size)
		}
		wantBack(t, s)
	}
	chain := fullState(256) // each directory in the one ahead, as deep as there may be
	for at := range chain.Inodes[:256] {
		chain.Inodes[at].Entries = []api.Entry{{Name: "d", Num: at + 2}, {Name: "e", Num: 257}}
	}
	chain.Inodes[255].Entries = chain.Inodes[255].Entries[:1]
	wantBack(t, chain)
}

// someCall is a call that may turn something, of a core that there is.
func (r *row) someCall(cores int) api.Call {
	paths := []string{"/a", "/b", "/d", "/d/a", "/d/e", "/d/e/f", "/d/e/f/g", "/é", "/a b", "/123456789012"}
	c := api.Call{Core: r.below(cores), Fd: r.below(3), Off: r.below(30), Num: r.below(257)}
	c.Kind = pick(r, api.CallCreate, api.CallCreate, api.CallMkdir, api.CallMkdir, api.CallOpen, api.CallOpen, api.CallClose,
		api.CallWrite, api.CallTruncate, api.CallLink, api.CallUnlink, api.CallUnlink, api.CallRmdir, api.CallRename)
	c.Path, c.Path2 = pick(r, paths...), pick(r, paths...)
	data := make([]byte, pick(r, 0, 1, r.below(20), r.below(227)))
	for at := range data {
		data[at] = byte(r.below(256))
	}
	c.Data = string(data)
	return c
}

// someStates are states that rows of calls lead to.
func someStates(seed row, rounds int) []api.State {
	var all []api.State
	for round := range rounds {
		s, _ := model.New(1 + round%api.MaxCores)
		for range 60 {
			s, _ = model.Do(s, seed.someCall(len(s.Made)))
			all = append(all, s)
		}
	}
	return all
}

// closed is a state behind the Close of each descriptor.
func closed(s api.State) api.State {
	for _, d := range s.Open {
		s, _ = model.Do(s, api.Call{Kind: api.CallClose, Core: d.Core, Fd: d.Fd})
	}
	return s
}

// P19.1, P19.2: states that calls lead to are written as the chapter tells, and come back as if all had been closed.
func TestRowsOfCalls(t *testing.T) {
	leftOut, open := 0, 0
	for _, s := range someStates(19, 60) {
		wantBack(t, s)
		b, _ := layout.Put(s)
		back, e := layout.Get(b)
		if e != api.OK || !shape.Same(back, closed(s)) || len(back.Open) != 0 {
			t.Fatalf("error %d: %s, of %s", e, show(back), show(s))
		}
		wantPut(t, back, b)
		if len(back.Inodes) < len(s.Inodes) {
			leftOut++
		}
		if len(s.Open) > 0 {
			open++
		}
	}
	if leftOut < 100 || open < 1000 {
		t.Errorf("of %d states something is left out, of %d something is open", leftOut, open)
	}
}

// P19.2: states have one row of bytes just if they are one behind their Closes.
func TestUnlikeStatesHaveUnlikeBytes(t *testing.T) {
	states := someStates(91, 40)
	shapes, seen := map[string]string{}, map[string]string{}
	for _, s := range states {
		b, _ := layout.Put(s)
		told, e := shape.Of(closed(s))
		if e != api.OK {
			t.Fatalf("error %d", e)
		}
		if was, is := shapes[b]; is && was != told {
			t.Fatalf("one row of bytes of\n%s\nand\n%s", was, told)
		}
		if was, is := seen[told]; is && was != b {
			t.Fatalf("%q and %q, of\n%s", was, b, told)
		}
		shapes[b], seen[told] = told, b
	}
	if len(shapes) < 300 {
		t.Errorf("%d only", len(shapes))
	}
}

// wantPlain fails unless Get answers what plainGet does, and what is taken is written as it stood.
func wantPlain(t *testing.T, b string) api.Errno {
	t.Helper()
	s, e := plainGet(b)
	wantGet(t, b, s, e)
	if e == api.OK {
		wantPut(t, s, b)
	}
	return e
}

// P19.1, P19.2: all short bodies of some bytes, with their sums.
func TestAllShortBodies(t *testing.T) {
	seen := map[api.Errno]int{}
	var grow func(b string, left int)
	grow = func(b string, left int) {
		seen[wantPlain(t, summed(b))]++
		if left > 0 {
			for _, next := range []string{"\x00", "\x01", "\x02", "a", "\x80"} {
				grow(b+next, left-1)
			}
		}
	}
	grow("CNC1\x01", 6)
	grow("CNC1\x01\x01\x02\x01\x01\x01", 6)
	grow("CNC1\x02\x00\x01\x02\x01\x01\x01\x01a\x03\x03", 4)
	if seen[api.OK] < 5 || seen[api.ErrLayoutForm] < 1000 || seen[api.ErrLayoutState] < 10 || len(seen) != 3 {
		t.Errorf("%v", seen)
	}
}

// turn gives bytes with something turned: a byte, a bit, a byte more or fewer, a piece twice or elsewhere.
func (r *row) turn(b string) string {
	at := r.below(len(b))
	to := at + r.below(min(8, len(b)-at)+1)
	switch r.below(7) {
	case 0:
		return b[:at] + string([]byte{byte(r.below(256))}) + b[at+1:]
	case 1:
		return b[:at] + string([]byte{b[at] ^ 1<<r.below(8)}) + b[at+1:]
	case 2:
		return b[:at] + string([]byte{pick(r, byte(0), 1, 2, 128, byte(r.below(256)))}) + b[at:]
	case 3:
		return b[:at] + b[at+1:]
	case 4:
		return b[:to] + b[at:]
	case 5:
		return b[:at] + string([]byte{b[at] + byte(pick(r, 1, 255))}) + b[at+1:]
	}
	other := r.below(len(b))
	return b[:other] + b[at:to] + b[other:]
}

// P19.1, P19.2: bodies that were turned, with right sums: most are of no form, some of a state that may not be, and
// what is taken is written as it stood.
func TestTurnedBodies(t *testing.T) {
	g := row(190)
	seen := map[api.Errno]int{}
	for _, s := range someStates(7, 8) {
		front := plainBody(kept(s))
		for range 40 {
			x := g.turn(front)
			for range g.below(3) {
				x = g.turn(x + "\x00")
			}
			seen[wantPlain(t, summed(x))]++
		}
	}
	if seen[api.OK] < 500 || seen[api.ErrLayoutForm] < 1000 || seen[api.ErrLayoutState] < 500 || len(seen) != 3 {
		t.Errorf("%v", seen)
	}
}

// R1: any bytes at all are answered.
func TestAnyBytes(t *testing.T) {
	g := row(3)
	for size := range 2000 {
		b := make([]byte, size%300)
		for at := range b {
			b[at] = byte(g.below(256))
		}
		wantPlain(t, string(b))
		wantPlain(t, summed(string(b)))
		wantPlain(t, summed("CNC1"+string(b)))
	}
}
