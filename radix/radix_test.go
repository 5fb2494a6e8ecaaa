package radix_test

import (
	"math"
	"slices"
	"testing"

	"concourse/api"
	"concourse/radix"
)

// P7.1: each page has 0 at first, whatever the words were, for every core.
func TestNewHasNoPages(t *testing.T) {
	for cores := 1; cores <= api.MaxCores; cores++ {
		b := makeBook(t, cores, 3, leastWords, 3)
		b.wantPages()
		b.close()
	}
}

// P7.1: New on the words of another tree begins anew.
func TestNewOverAnother(t *testing.T) {
	b := makeBook(t, 2, 0, leastWords, 0)
	b.setAll(0, 5)
	r, e := radix.New(b.a, 0, leastWords)
	if e != api.OK {
		t.Fatalf("error %d", e)
	}
	b.r, b.plain = r, [api.MaxPages]int{}
	b.wantPages()
	b.set(1, 9, 4)
	b.wantPages(9)
}

// P7.1: the words that a tree may have: 128 and more, at the arena's first word, at its last one, all of them.
func TestWordsOfATree(t *testing.T) {
	for _, words := range []int{128, 129, 130, 500, 4096} {
		for _, around := range [][2]int{{0, 0}, {0, 7}, {7, 0}, {50, 20}, {129, 1}} {
			b := makeBook(t, 3, around[0], words, around[1])
			b.setAll(2, 1)
			b.set(1, 15, math.MaxInt)
			b.cut(0, 3)
			b.setAll(1, 100)
			b.close()
		}
	}
	b := makeBook(t, 1, 0, api.MaxArena, 0)
	b.setAll(0, 9)
	b = makeBook(t, api.MaxCores, api.MaxArena-leastWords, leastWords, 0)
	b.setAll(7, 9)
	b.close()
}

// P7.1: a page set by one core is got by every one; set again; set to 0; cut; set again.
func TestOnePage(t *testing.T) {
	for page := range api.MaxPages {
		b := makeBook(t, 3, 1, 130, 1)
		b.set(0, page, 7)
		b.wantPages(page)
		b.set(1, page, 8)
		b.set(2, page, 8)
		b.wantPages(page)
		b.set(0, page, 0)
		b.wantPages()
		b.set(0, page, 1)
		b.wantPages(page)
		b.cut(2, page)
		b.wantPages()
		b.set(1, page, 2)
		b.wantPages(page)
		b.close()
	}
}

// P7.1: a number of 0 is as none; the greatest int is a number.
func TestNumbers(t *testing.T) {
	b := makeBook(t, 2, 0, leastWords, 0)
	for _, page := range []int{0, 7, 15} {
		for _, v := range []int{0, 1, 2, 15, 16, 20, 127, 128, 1 << 31, 1<<32 + 1, math.MaxInt - 1, math.MaxInt} {
			b.set(0, page, v)
			if got, e := b.r.Get(1, page); got != v || e != api.OK {
				t.Errorf("page %d: %d, error %d, want %d", page, got, e, v)
			}
		}
	}
	b.wantPages(0, 7, 15)
}

// P7.1: Pages rise, in whatever row they were set: none, some, all of them.
func TestPagesRise(t *testing.T) {
	b := makeBook(t, 2, 0, leastWords, 0)
	b.wantPages()
	for _, page := range []int{9, 15, 0, 4, 3} {
		b.set(0, page, 1)
	}
	b.wantPages(0, 3, 4, 9, 15)
	for page := api.MaxPages - 1; page >= 0; page-- {
		b.set(1, page, 3)
	}
	b.wantPages(0, 1, 2, 3, 4, 5, 6, 7, 8, 9, 10, 11, 12, 13, 14, 15)
	b.set(1, 0, 0)
	b.set(1, 7, 0)
	b.set(1, 15, 0)
	b.wantPages(1, 2, 3, 4, 5, 6, 8, 9, 10, 11, 12, 13, 14)
}

// P7.1: Cut of every page, of all pages and of some, keeps those ahead of it.
func TestCuts(t *testing.T) {
	for page := 0; page <= api.MaxPages; page++ {
		b := makeBook(t, 2, 2, leastWords, 2)
		b.cut(1, page)
		b.wantPages()
		b.setAll(0, 40)
		b.cut(1, page)
		if got := b.r.Pages(0); len(got) != page {
			t.Errorf("Cut(1, %d) left %v", page, got)
		}
		b.cut(0, page)
		b.cut(0, api.MaxPages)
		b.setAll(1, 60)
		b.cut(0, 0)
		b.wantPages()
		for p := 1; p < api.MaxPages; p += 2 {
			b.set(0, p, p)
		}
		b.cut(0, page)
		b.close()
	}
}

// P7.1: all pages are set, cut and set again as often as one likes within 128 words.
func TestSetAndCutForLong(t *testing.T) {
	b := makeBook(t, 2, 5, leastWords, 5)
	for k := range 300 {
		b.setAll(k%2, k+1)
		b.cut((k+1)%2, k%(api.MaxPages+1))
	}
	b.close()
	for k := range 20000 {
		page := k % api.MaxPages
		if e := b.r.Set(0, page, k+1); e != api.OK {
			t.Fatalf("Set the %d. time: error %d", k, e)
		}
		if e := b.r.Cut(1, page); e != api.OK {
			t.Fatalf("Cut the %d. time: error %d", k, e)
		}
		clearTraces(b.a)
	}
	b.close()
}

// P7.1: two trees of one arena, one behind the other, have pages of their own.
func TestTwoTrees(t *testing.T) {
	a := makeArena(t, 2*leastWords, 2)
	one, e := radix.New(a, 0, leastWords)
	two, f := radix.New(a, leastWords, leastWords)
	if e != api.OK || f != api.OK {
		t.Fatalf("errors %d, %d", e, f)
	}
	b := &book{t: t, a: a, r: one, from: 0, words: leastWords}
	c := &book{t: t, a: a, r: two, from: leastWords, words: leastWords}
	g := row(3)
	for range 200 {
		someCall(&g, b)
		c.want()
		someCall(&g, c)
		b.want()
	}
}

// R4: a list that Pages answered is nobody's else.
func TestPagesAreNew(t *testing.T) {
	b := makeBook(t, 1, 0, leastWords, 0)
	b.set(0, 2, 1)
	b.set(0, 5, 1)
	one := b.r.Pages(0)
	two := b.r.Pages(0)
	one[0], one[1] = 9, 9
	_ = append(one, 7)
	if !slices.Equal(two, []int{2, 5}) {
		t.Errorf("another answer is %v", two)
	}
	b.wantPages(2, 5)
}
