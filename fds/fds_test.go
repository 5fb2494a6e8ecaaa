package fds_test

import (
	"math"
	"slices"
	"testing"

	"concourse/api"
	"concourse/arena"
	"concourse/fds"
)

// P12.1: descriptors of two cores, call by call.
func TestFirstDescriptors(t *testing.T) {
	a, _ := arena.New(20, 2)
	f, e := fds.New(a, 3)
	if e != api.OK {
		t.Fatalf("error %d", e)
	}
	one, _ := f.Open(1, 9)
	two, _ := f.Open(1, 12)
	zero, _ := f.Open(0, 9)
	if one == two || one < 0 || one > 3 || two < 0 || two > 3 || zero < 0 || zero > 3 {
		t.Fatalf("descriptors %d, %d, %d", one, two, zero)
	}
	for _, c := range []struct{ core, fd, num int }{{1, one, 9}, {1, two, 12}, {0, zero, 9}} {
		if num, e := f.Get(c.core, c.fd); num != c.num || e != api.OK {
			t.Errorf("Get(%d, %d): %d, error %d, want %d", c.core, c.fd, num, e, c.num)
		}
	}
	if e := f.Close(1, one); e != api.OK {
		t.Errorf("Close: error %d", e)
	}
	if num, e := f.Get(1, one); num != 0 || e != api.ErrFdsNone {
		t.Errorf("Get behind Close: %d, error %d", num, e)
	}
	if got := f.List(1); !slices.Equal(got, []api.Desc{{Core: 1, Fd: two, Num: 12}}) {
		t.Errorf("List(1): %v", got)
	}
	if got := f.List(0); !slices.Equal(got, []api.Desc{{Core: 0, Fd: zero, Num: 9}}) {
		t.Errorf("List(0): %v", got)
	}
}

// P12.1: arenas of one core to MaxCores cores, core by core and round and round.
func TestAllDescriptorsOfAllCores(t *testing.T) {
	for cores := 1; cores <= api.MaxCores; cores++ {
		b := makeBook(t, cores, 4, 4)
		b.look()
		b.fill()
		b.end()
		b = makeBook(t, cores, 0, 0)
		for k := range api.MaxFds + 2 {
			for core := range cores {
				b.open(core, 1+10*k+core)
			}
			b.look()
		}
		b.end()
	}
}

// P12.1: calls of several cores in any row.
func TestAnyRow(t *testing.T) {
	for seed := range 150 {
		g := row(seed)
		cores := 1 + g.below(api.MaxCores)
		b := makeBook(t, cores, g.below(9), g.below(9))
		for range 60 * cores {
			b.any(&g, g.below(cores))
			if g.below(8) == 0 {
				b.look()
			}
		}
		b.end()
	}
}

// R5: two rows of the same calls answer the same.
func TestTheSameAgain(t *testing.T) {
	for seed := range 20 {
		var lists [2][]api.Desc
		for k := range lists {
			g := row(seed)
			b := makeBook(t, 3, 5*k, 7-5*k)
			for range 50 {
				b.any(&g, g.below(3))
			}
			for core := range 3 {
				lists[k] = append(lists[k], b.f.List(core)...)
			}
		}
		if !slices.Equal(lists[0], lists[1]) {
			t.Errorf("row %d: %v and %v", seed, lists[0], lists[1])
		}
	}
}

// P12.1: a core's MaxFds-th descriptor, and one more, while others still have some free.
func TestOneCoreIsFull(t *testing.T) {
	for full := range 3 {
		b := makeBook(t, 3, 2, 2)
		other := (full + 1) % 3
		b.open(other, 5)
		for k := range api.MaxFds {
			b.open(full, 20+k)
		}
		if len(b.has[full]) != 4 {
			t.Fatalf("core %d has %v", full, b.has[full])
		}
		for k := range 3 {
			if fd, e := b.f.Open(full, 20+k); fd != 0 || e != api.ErrFdsFull {
				t.Errorf("core %d, full: %d, error %d", full, fd, e)
			}
			b.open(other, 30+k)
			b.open((full+2)%3, 40)
			b.look()
		}
		b.end()
	}
}

// P12.1: of a core that is full, each descriptor that is closed is the one that is opened next.
func TestClosedOnesAreThereAgain(t *testing.T) {
	b := makeBook(t, 2, 1, 1)
	b.fill()
	for k := range 12 {
		for core := range 2 {
			fd := (k*3 + core) % api.MaxFds
			b.close(core, fd)
			b.look()
			b.close(core, fd)
			if got := b.open(core, 50+k); got != fd {
				t.Errorf("core %d: %d, where only %d was free", core, got, fd)
			}
			b.open(core, 60)
			b.look()
		}
	}
	b.end()
}

// P12.1: whichever descriptors are closed, the others stay, and as many can be opened, the first and the last ones too.
func TestAllPartsClosed(t *testing.T) {
	for part := range 1 << api.MaxFds {
		b := makeBook(t, 3, 1, 1)
		b.fill()
		for fd := range api.MaxFds {
			if part>>fd&1 == 1 {
				b.close(1, fd)
			}
		}
		b.look()
		for fd := range api.MaxFds {
			if part>>fd&1 == 1 {
				b.open(1, 2000+fd)
				b.look()
			}
		}
		b.open(1, 3000)
		b.end()
	}
}

// P12.1: List of a core that has none, and of one that has all, by Fd rising, with all three fields.
func TestListOfNoneAndOfAll(t *testing.T) {
	b := makeBook(t, 4, 3, 3)
	for k := range api.MaxFds {
		b.open(2, 90-k)
	}
	all := b.f.List(2)
	if len(all) != 4 {
		t.Fatalf("List(2): %v", all)
	}
	for fd, d := range all {
		if want := (api.Desc{Core: 2, Fd: fd, Num: b.has[2][fd]}); d != want {
			t.Errorf("List(2), place %d: %v, want %v", fd, d, want)
		}
	}
	for _, core := range []int{0, 1, 3} {
		if list := b.f.List(core); len(list) != 0 {
			t.Errorf("List(%d): %v", core, list)
		}
	}
	for fd := range api.MaxFds {
		b.close(2, fd)
	}
	if list := b.f.List(2); len(list) != 0 {
		t.Errorf("List of a core that closed all: %v", list)
	}
}

// P12.1: num 1 and far above, and a num that several descriptors have, of one core and of two.
func TestNumbers(t *testing.T) {
	for _, num := range []int{1, 2, 3, 257, 258, 1 << 16, math.MaxInt32, math.MaxInt32 + 1, 1 << 32, 1<<62 - 1, math.MaxInt - 1, math.MaxInt} {
		b := makeBook(t, 2, 2, 2)
		for k := range api.MaxFds {
			b.open(k%2, num)
			b.open(1-k%2, num)
			b.look()
		}
		b.close(0, 1)
		b.close(1, 2)
		b.look()
		b.open(1, num)
		b.look()
		b.end()
	}
}

// P12.1: from 0 and from further on, words that just fit the arena, and one word too few.
func TestWordsThatJustFit(t *testing.T) {
	for cores := 1; cores <= api.MaxCores; cores++ {
		words := 4 * cores
		for _, from := range []int{0, 1, 2, 3, 4, 7, 50, 1000, api.MaxArena - words} {
			makeBook(t, cores, from, 0).end()
			a := makeArena(t, from+words-1, cores)
			held := allWords(a)
			if f, e := fds.New(a, from); f != nil || e != api.ErrFdsForm {
				t.Errorf("%d cores, from %d, one word too few: error %d", cores, from, e)
			}
			wantQuiet(t, a, held)
		}
	}
}

// P12.1: whatever the words held ahead of New, no core has a descriptor.
func TestWordsThatHadOtherValues(t *testing.T) {
	for _, v := range []int{1, 2, 3, 4, 5, 257, 1 << 40, -1, -2, -4, math.MaxInt, math.MinInt} {
		a := makeArena(t, 30, 4)
		for at := range 16 {
			a.Store(at/4, 5+at, v)
		}
		b := bookAt(t, a, 5)
		b.look()
		b.end()
	}
}

// P12.1: Fds made where others were begin anew.
func TestNewAgain(t *testing.T) {
	b := makeBook(t, 3, 6, 1)
	b.fill()
	bookAt(t, b.a, 6).open(2, 8)
	again := bookAt(t, b.a, 6)
	again.look()
	again.end()
}

// P12.1: Fds side by side in one arena know nothing of each other, nor does a New beside them.
func TestSideBySide(t *testing.T) {
	const cores, words = 3, 12
	for seed := range 10 {
		a := makeArena(t, 4*words, cores)
		books := []*book{bookAt(t, a, words), bookAt(t, a, 2*words), bookAt(t, a, 0)}
		g := row(seed)
		for range 250 {
			books[g.below(3)].any(&g, g.below(cores))
			if g.below(10) == 0 {
				bookAt(t, a, 3*words)
			}
			books[g.below(3)].look()
		}
	}
}

// P12.1: of two arenas each has its own.
func TestTwoArenas(t *testing.T) {
	one, two := makeBook(t, 2, 3, 3), makeBook(t, 4, 3, 3)
	one.fill()
	two.look()
	two.open(1, 4)
	two.open(3, 5)
	one.close(1, 2)
	one.look()
	two.end()
	one.end()
}

// R4: what List answers shares no memory with another answer, nor with what the Fds hold.
func TestListsAreNewMemory(t *testing.T) {
	b := makeBook(t, 2, 1, 1)
	for n := range api.MaxFds {
		b.open(0, 10+n)
		b.open(1, 20+n)
		one, two, three := b.f.List(0), b.f.List(0), b.f.List(1)
		for _, list := range [][]api.Desc{one, three} {
			spare := list[:cap(list)]
			for i := range spare {
				spare[i] = api.Desc{Core: 7, Fd: 9, Num: -3}
			}
		}
		if !slices.Equal(two, b.wantList(0)) {
			t.Errorf("another answer is %v now", two)
		}
		b.look()
	}
	kept := b.f.List(0)
	want := slices.Clone(kept)
	b.close(0, 0)
	b.close(0, 3)
	b.open(0, 70)
	if !slices.Equal(kept, want) {
		t.Errorf("an answer of before is %v now", kept)
	}
}
