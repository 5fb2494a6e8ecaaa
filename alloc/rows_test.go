package alloc_test

import (
	"slices"
	"testing"

	"concourse/api"
)

// someCall gets or frees a piece, picked by r.
func someCall(r *row, b *book) {
	b.t.Helper()
	if len(b.pieces) > 0 && r.below(5) < 2 {
		b.free(b.pieces[r.below(len(b.pieces))])
		return
	}
	most := []int{3, 8, 32}[r.below(3)]
	b.get(r.below(b.a.Cores()), 1+r.below(most))
}

// P4.1: long rows of Gets and Frees are as the book says, and write nothing outside.
func TestRowsAgainstBook(t *testing.T) {
	for seed := range 60 {
		r := row(seed)
		cores := 1 + seed%api.MaxCores
		words := 64*cores + r.below(200*cores)
		from := r.below(100)
		b := makeBook(t, from+words+r.below(100), cores, from, words)
		for range 600 {
			someCall(&r, b)
		}
		b.close()
	}
}

// P4.1: rows that end far above what was there at one time, in the greatest arena.
func TestLongRowEnds(t *testing.T) {
	b := makeBook(t, api.MaxArena, 1, 0, api.MaxArena)
	if many := len(b.fill(0, 1)); many < api.MaxArena/4/3 {
		t.Errorf("%d pieces", many)
	}
	b.close()
}

// P4.1: a core that has taken all it can leaves the others theirs.
func TestFullCoreLeavesTheOthers(t *testing.T) {
	for _, size := range []int{1, 7, 32} {
		fresh := makeBook(t, 2000, 4, 100, 1200)
		alone := len(fresh.fill(3, size))
		b := makeBook(t, 2000, 4, 100, 1200)
		for core := range 4 {
			left := b.left(core)
			if left != fresh.left(2) {
				t.Errorf("core %d: Left %d, though it has nothing", core, left)
			}
			if many := len(b.fill(core, size)); many != alone {
				t.Errorf("size %d, core %d: %d pieces, not %d", size, core, many, alone)
			}
		}
		b.close()
	}
}

// keepFew frees a core's pieces, as many as it can without a gap of width words between those that stay.
func keepFew(b *book, core, width int) {
	own := ofCore(b, core)
	end := 0
	if len(own) > 0 {
		end = own[0].at
	}
	for i, p := range own {
		if i+1 < len(own) && own[i+1].at-end < width {
			b.free(p)
			continue
		}
		end = p.at + p.size
	}
}

// keepOneEach frees a core's pieces, but the first that lies in each width words.
func keepOneEach(b *book, core, width int) {
	own := ofCore(b, core)
	had := -1
	for _, p := range own {
		if window := (p.at - own[0].at) / width; window == had {
			b.free(p)
		} else {
			had = window
		}
	}
}

// ofCore gives a core's pieces by their places.
func ofCore(b *book, core int) []piece {
	var own []piece
	for _, p := range b.pieces {
		if p.core == core {
			own = append(own, p)
		}
	}
	slices.SortFunc(own, func(p, q piece) int { return p.at - q.at })
	return own
}

// P4.1: pieces that were freed so that those which stay lie in the way of greater ones are no reason to refuse.
func TestPiecesInTheWay(t *testing.T) {
	rows := [][]int{
		{1, 2, 4, 8, 16, 32}, {1, 3, 5, 9, 17}, {1, 2, 3, 5, 9, 17, 32}, {1, 4, 16, 32}, {1, 32}, {1, 17}, {2, 31}, {3, 9, 27},
		{1, 2, 3, 4, 5, 6, 7, 8, 9, 10, 11, 12, 13, 14, 15, 16, 17, 18, 19, 20, 21, 22, 23, 24, 25, 26, 27, 28, 29, 30, 31, 32},
		{1, 2, 5, 12, 26, 32}, {32, 16, 8, 4, 2, 1, 32}, {17, 9, 5, 3, 1, 32}, {8, 1, 9, 1, 17, 1, 32},
	}
	for _, share := range []int{64, 66, 72, 100, 136, 140, 172, 200, 301, 1000, 4096, 16384} {
		for _, sizes := range rows {
			for _, keep := range []func(*book, int, int){keepFew, keepOneEach} {
				b := makeBook(t, 2*share, 2, 0, 2*share)
				for i, size := range sizes {
					b.fill(1, size)
					keep(b, 1, sizes[min(i+1, len(sizes)-1)])
				}
				wantEverySize(b, 1)
				b.close()
			}
		}
	}
}

// wantEverySize gets and frees a piece of each size; the book fails if one is refused that may not be.
func wantEverySize(b *book, core int) {
	b.t.Helper()
	for size := 1; size <= 32; size++ {
		if p, ok := b.get(core, size); ok {
			b.free(p)
		}
	}
}

// P4.1: the same, with what is filled, and how wide the gaps may be, by chance.
func TestPiecesInTheWayByChance(t *testing.T) {
	for seed := range 150 {
		r := row(seed)
		share := 64 + r.below(900)
		b := makeBook(t, share, 1, 0, share)
		for range 30 {
			b.fill(0, 1+r.below(1+r.below(32)))
			keep := keepFew
			if r.below(2) == 0 {
				keep = keepOneEach
			}
			keep(b, 0, 1+r.below(34))
			wantEverySize(b, 0)
		}
		b.close()
	}
}
