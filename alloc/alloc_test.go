package alloc_test

import (
	"math"
	"slices"
	"testing"

	"concourse/alloc"
	"concourse/api"
	"concourse/arena"
)

// P4.1: allocators that are refused; nothing is touched.
func TestNewRefuses(t *testing.T) {
	a := makeArena(t, 1000, 3)
	before := allWords(a)
	rows := [][2]int{
		{-1, 500}, {math.MinInt, 500}, {0, 191}, {0, 0}, {0, -1}, {0, math.MinInt}, {-1, -1},
		{0, 1001}, {1, 1000}, {808, 193}, {809, 192}, {1000, 192}, {1001, 192},
		{0, math.MaxInt}, {1, math.MaxInt}, {1000, math.MaxInt}, {math.MaxInt, 192}, {math.MaxInt, math.MaxInt},
		{math.MaxInt - 191, 192}, {math.MaxInt - 100, 192}, {192, math.MaxInt - 100}, {1, 1 << 62},
	}
	for _, c := range rows {
		if x, e := alloc.New(a, c[0], c[1]); x != nil || e != api.ErrAllocSize {
			t.Errorf("from %d, %d words: error %d", c[0], c[1], e)
		}
		if x, e := alloc.New(nil, c[0], c[1]); x != nil || e != api.ErrNil {
			t.Errorf("no arena, from %d, %d words: error %d", c[0], c[1], e)
		}
	}
	for core := range 3 {
		if row := a.Trace(core); len(row) != 0 {
			t.Errorf("core %d touched %v", core, row)
		}
	}
	if !slices.Equal(allWords(a), before) {
		t.Error("a refused New wrote")
	}
	if x, e := alloc.New(nil, 0, 192); x != nil || e != api.ErrNil {
		t.Errorf("no arena: error %d", e)
	}
}

// P4.1: the least allocator of so many cores, at the arena's first word and at its last one; one word fewer; one word behind.
func TestLeastAllocators(t *testing.T) {
	for cores := 1; cores <= api.MaxCores; cores++ {
		least := 64 * cores
		a := makeArena(t, least, cores)
		for _, c := range [][2]int{{0, least - 1}, {1, least - 1}, {1, least}, {0, least + 1}} {
			if x, e := alloc.New(a, c[0], c[1]); x != nil || e != api.ErrAllocSize {
				t.Errorf("%d cores, from %d, %d words: error %d", cores, c[0], c[1], e)
			}
		}
		for _, from := range []int{0, 1, 100} {
			b := makeBook(t, from+least, cores, from, least)
			for core := range cores {
				if p, ok := b.get(core, 14); !ok {
					t.Errorf("%d cores, core %d: %v is refused", cores, core, p)
				}
			}
			b.close()
		}
		b := makeBook(t, least+200, cores, 100, least)
		for core := range cores {
			b.fill(core, 1)
		}
		b.close()
	}
}

// P4.1: greatest allocators, and sizes of 1 and of 32 at their edges.
func TestGreatestAllocators(t *testing.T) {
	for _, cores := range []int{1, 2, 7, api.MaxCores} {
		b := makeBook(t, api.MaxArena, cores, 0, api.MaxArena)
		for core := range cores {
			for _, size := range []int{32, 1, 31, 2, 32, 1} {
				if _, ok := b.get(core, size); !ok {
					t.Errorf("%d cores, core %d: size %d is refused", cores, core, size)
				}
			}
		}
		b.close()
	}
}

// P4.1: every size at a share whose quarter is just what the piece counts for, and at one of a word fewer.
func TestOnePieceOfAQuarter(t *testing.T) {
	for size := 1; size <= 32; size++ {
		share := 4 * (size + 2)
		if share >= 64 {
			b := makeBook(t, 2*share+20, 2, 10, 2*share)
			if _, ok := b.get(1, size); !ok {
				t.Errorf("size %d of a share of %d is refused", size, share)
			}
			b.close()
		}
		if share-1 >= 64 {
			b := makeBook(t, 2*share, 2, 1, 2*share-2)
			b.get(1, size)
			b.close()
		}
	}
}

// P4.1: a core gets until it is refused: never ahead of a quarter of its share. Freed, all can be got again.
func TestUntilFull(t *testing.T) {
	for _, share := range []int{64, 65, 67, 68, 100, 136, 171, 172, 173, 300, 1023} {
		for size := 1; size <= 32; size++ {
			b := makeBook(t, 3*share+10, 3, 5, 3*share)
			many := len(b.fill(1, size))
			if many < share/4/(size+2) {
				t.Errorf("share %d: %d of size %d", share, many, size)
			}
			for len(b.pieces) > 0 {
				b.free(b.pieces[len(b.pieces)/2])
			}
			if again := len(b.fill(1, size)); again < share/4/(size+2) {
				t.Errorf("share %d: %d of size %d, then %d", share, many, size, again)
			}
			b.close()
		}
	}
}

// P4.1: shares are rounded down: a core's quarter is that of its share, whatever is left over.
func TestSharesThatAreNotEven(t *testing.T) {
	for cores := 1; cores <= api.MaxCores; cores++ {
		for over := range cores {
			for _, share := range []int{64, 67, 139} {
				words := share*cores + over
				b := makeBook(t, words+7, cores, 3, words)
				for core := range cores {
					if many := len(b.fill(core, 1)); many < share/4/3 {
						t.Errorf("%d cores, %d words, core %d: %d pieces", cores, words, core, many)
					}
				}
				b.close()
			}
		}
	}
}

// P4.1: words that were written to, freed and given again are 0, even if they were written to behind Free.
func TestWordsGivenAgainAreZero(t *testing.T) {
	for _, size := range []int{1, 2, 13, 31, 32} {
		b := makeBook(t, 400, 2, 7, 300)
		for range 50 {
			p, ok := b.get(0, size)
			if !ok {
				t.Fatalf("size %d is refused", size)
			}
			b.free(p)
			for w := range size {
				b.a.Store(1, p.at+w, -3)
			}
		}
		b.close()
	}
}

// P4.1: an allocator made where another one was knows nothing of it.
func TestNewAgain(t *testing.T) {
	b := makeBook(t, 300, 2, 10, 280)
	p, _ := b.get(0, 9)
	b.get(1, 20)
	fresh := makeBook(t, 300, 2, 10, 280)
	x, e := alloc.New(b.a, 10, 280)
	if e != api.OK || x.Left(0) != fresh.left(0) || x.Left(1) != fresh.left(1) || x.Free(0, p.at) != api.ErrAllocPlace {
		t.Errorf("error %d, Left %d and %d", e, x.Left(0), x.Left(1))
	}
	b.x, b.pieces, b.owned = x, nil, make([]bool, 300)
	b.fill(0, 4)
	b.fill(1, 3)
	b.close()
}

// P4.1: what is kept lies in the words: two allocators of one arena, side by side, know nothing of each other.
func TestTwoAllocators(t *testing.T) {
	b := makeBook(t, 600, 2, 0, 300)
	x, e := alloc.New(b.a, 300, 300)
	if e != api.OK {
		t.Fatalf("error %d", e)
	}
	other := &book{t: t, a: b.a, x: x, from: 300, words: 300, owned: make([]bool, 600)}
	r := row(8)
	for range 500 {
		one := b
		if r.below(2) == 0 {
			one = other
		}
		someCall(&r, one)
	}
	for _, one := range []*book{b, other} {
		for _, p := range one.pieces {
			one.wantKept(p)
		}
	}
}

// R3: no allocator. R1: an allocator that New did not make, and an arena that arena.New did not make, have no core.
func TestNoAllocator(t *testing.T) {
	var none *alloc.Alloc
	for _, core := range []int{-1, 0, 8} {
		for _, n := range []int{-1, 0, 1, 33} {
			at, e := none.Get(core, n)
			if at != 0 || e != api.ErrNil || none.Free(core, n) != api.ErrNil || none.Left(core) != 0 {
				t.Errorf("core %d, %d: %d, error %d", core, n, at, e)
			}
			wantNoCore(t, new(alloc.Alloc), core, n)
		}
	}
	bare := new(arena.Arena)
	if _, e := alloc.New(bare, 0, 64); e != api.ErrAllocSize {
		t.Errorf("64 words of a bare arena: error %d", e)
	}
	if x, e := alloc.New(bare, 0, 0); e != api.OK {
		t.Errorf("no word of a bare arena: error %d", e)
	} else {
		wantNoCore(t, x, 0, 1)
	}
}

// wantNoCore fails if there is such a core.
func wantNoCore(t *testing.T, x *alloc.Alloc, core, n int) {
	t.Helper()
	at, e := x.Get(core, n)
	if at != 0 || e != api.ErrAllocForm || x.Free(core, n) != api.ErrAllocPlace || x.Left(core) != 0 {
		t.Errorf("core %d, %d: %d, error %d, Left %d", core, n, at, e, x.Left(core))
	}
}
