package alloc_test

import (
	"math"
	"slices"
	"testing"

	"concourse/api"
)

// wantUnchanged fails if a call that is refused changes a word.
func wantUnchanged(t *testing.T, b *book, call func()) {
	t.Helper()
	before := allWords(b.a)
	call()
	if !slices.Equal(allWords(b.a), before) {
		t.Error("a refused call changed a word")
	}
}

// wantUntouched fails if a call that is refused touches a word.
func wantUntouched(t *testing.T, b *book, call func()) {
	t.Helper()
	for core := range b.a.Cores() {
		b.a.Clear(core)
	}
	call()
	for core := range b.a.Cores() {
		if row := b.a.Trace(core); len(row) != 0 {
			t.Errorf("a refused call touched %v", row)
		}
	}
}

// P4.1: cores that there are not, sizes that may not be.
func TestWrongGets(t *testing.T) {
	b := makeBook(t, 1000, 3, 10, 900)
	b.get(0, 5)
	rows := [][2]int{
		{3, 1}, {-1, 1}, {8, 1}, {math.MinInt, 1}, {math.MaxInt, 1},
		{0, 0}, {0, 33}, {1, -1}, {2, math.MinInt}, {2, math.MaxInt}, {3, 0}, {-1, 33},
	}
	for _, c := range rows {
		wantUntouched(t, b, func() {
			if at, e := b.x.Get(c[0], c[1]); at != 0 || e != api.ErrAllocForm {
				t.Errorf("Get(%d, %d): %d, error %d", c[0], c[1], at, e)
			}
		})
	}
	for _, core := range []int{3, -1, 8, math.MinInt, math.MaxInt} {
		if left := b.x.Left(core); left != 0 {
			t.Errorf("Left(%d): %d", core, left)
		}
	}
	b.close()
}

// R6: of a full core, a wrong size is told first.
func TestWrongSizeOfAFullCore(t *testing.T) {
	b := makeBook(t, 192, 3, 0, 192)
	b.fill(2, 1)
	for _, size := range []int{0, -1, 33} {
		if _, e := b.x.Get(2, size); e != api.ErrAllocForm {
			t.Errorf("size %d: error %d", size, e)
		}
	}
}

// P4.1, R5: a Get that is refused as full changes nothing.
func TestFullChangesNothing(t *testing.T) {
	b := makeBook(t, 200, 3, 4, 194)
	b.get(0, 4)
	b.fill(1, 2)
	left := b.left(1)
	for size := 32; size > 0; size-- {
		if size > left {
			wantUnchanged(t, b, func() {
				if _, e := b.x.Get(1, size); e != api.ErrAllocFull {
					t.Errorf("size %d, Left %d: error %d", size, left, e)
				}
			})
		}
	}
	b.close()
}

// P4.1: a core may free just what begins there and is its own: of all places, by all cores.
func TestWrongFrees(t *testing.T) {
	for _, share := range []int{64, 69, 70, 71, 105, 171, 172, 173, 200} {
		b := makeBook(t, 3*share+100, 3, 50, 3*share)
		r := row(share)
		for range 100 {
			someCall(&r, b)
		}
		for core := range 3 {
			b.fill(core, 1)
		}
		for core := -1; core <= 3; core++ {
			wantNoOtherFrees(t, b, core)
		}
		for len(b.pieces) > 0 {
			b.free(b.pieces[0])
		}
		b.close()
	}
}

// wantNoOtherFrees fails if a core may free what is not the beginning of a piece of its own.
func wantNoOtherFrees(t *testing.T, b *book, core int) {
	t.Helper()
	before := allWords(b.a)
	for at := -2; at < b.a.Words()+2; at++ {
		isOne := func(p piece) bool { return p.core == core && p.at == at }
		if slices.ContainsFunc(b.pieces, isOne) {
			continue
		}
		if e := b.x.Free(core, at); e != api.ErrAllocPlace {
			t.Errorf("share %d: Free(%d, %d): error %d", b.share(), core, at, e)
		}
	}
	if !slices.Equal(allWords(b.a), before) {
		t.Error("a refused Free changed a word")
	}
}

// P4.1: cores and places far outside; nothing is touched.
func TestFreesFarOutside(t *testing.T) {
	b := makeBook(t, 700, 3, 50, 600)
	p, _ := b.get(0, 3)
	wantUntouched(t, b, func() {
		for _, at := range []int{math.MinInt, math.MinInt + 1, -1, 0, 49, 650, 700, math.MaxInt - 31, math.MaxInt} {
			for core := -1; core <= 3; core++ {
				if e := b.x.Free(core, at); e != api.ErrAllocPlace {
					t.Errorf("Free(%d, %d): error %d", core, at, e)
				}
			}
		}
		for _, core := range []int{math.MinInt, -1, 3, 8, math.MaxInt} {
			if e := b.x.Free(core, p.at); e != api.ErrAllocPlace {
				t.Errorf("Free by core %d: error %d", core, e)
			}
		}
	})
	b.close()
}

// P4.1: a piece that another core has, places within a piece, and one that was freed before.
func TestFreeOfOnePiece(t *testing.T) {
	b := makeBook(t, 600, 2, 0, 600)
	refused := func(core, at int) {
		t.Helper()
		wantUnchanged(t, b, func() {
			if e := b.x.Free(core, at); e != api.ErrAllocPlace {
				t.Errorf("%v: Free(%d, %d): error %d", b.pieces, core, at, e)
			}
		})
	}
	for size := 1; size <= 32; size++ {
		p, _ := b.get(0, size)
		refused(1, p.at)
		for w := 1; w < size; w++ {
			refused(0, p.at+w)
			refused(1, p.at+w)
		}
		b.free(p)
		refused(0, p.at)
		refused(1, p.at)
	}
	b.close()
}
