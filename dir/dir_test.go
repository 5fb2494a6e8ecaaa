package dir_test

import (
	"slices"
	"strings"
	"testing"

	"concourse/api"
	"concourse/dir"
	"concourse/name"
)

// P9.1: a directory is empty at first, whatever the words were, for every core.
func TestNewIsEmpty(t *testing.T) {
	for cores := 1; cores <= api.MaxCores; cores++ {
		b := makeBook(t, cores, 3, leastWords, 3)
		for core := range cores {
			if got := b.d.List(core); len(got) != 0 {
				t.Errorf("List(%d): %v", core, got)
			}
		}
		for _, names := range byBucket(api.MaxSlots) {
			for _, s := range names {
				b.remove(cores-1, s)
				b.move(0, s, "b")
			}
		}
		b.fill(cores - 1)
		b.close()
	}
}

// P9.1: New on the words of another directory begins anew.
func TestNewOverAnother(t *testing.T) {
	b := makeBook(t, 2, 0, leastWords, 0)
	b.fill(0)
	d, e := dir.New(b.a, 0, leastWords)
	if e != api.OK {
		t.Fatalf("error %d", e)
	}
	b.d, b.plain = d, map[string]int{}
	b.want()
	b.fill(1)
}

// P9.1: the words that a directory may have: 512 and more, at the arena's first word, at its last one, all of them.
func TestWordsOfADirectory(t *testing.T) {
	for _, words := range []int{512, 513, 514, 1000, 4096} {
		for _, around := range [][2]int{{0, 0}, {0, 7}, {7, 0}, {50, 20}, {513, 1}} {
			b := makeBook(t, 3, around[0], words, around[1])
			b.fill(2)
			b.remove(1, byBucket(1)[7][0])
			b.move(0, byBucket(1)[0][0], byBucket(1)[7][0])
			b.close()
		}
	}
	makeBook(t, 1, 0, api.MaxArena, 0).fill(0)
	b := makeBook(t, api.MaxCores, api.MaxArena-leastWords, leastWords, 0)
	b.fill(7)
	b.close()
}

// P9.1: what one core inserts, every one finds; inserted again, removed, inserted again with another number.
func TestOneName(t *testing.T) {
	for _, s := range []string{"a", "..a", "...", " ", "é", "日本語の", "\U0001F600\U0001F600\U0001F600", "123456789012", "\ufffd"} {
		b := makeBook(t, 3, 1, 514, 1)
		if e := b.remove(0, s); e != api.ErrDirNone {
			t.Errorf("%q: Remove ahead of Insert: %d", s, e)
		}
		if e := b.insert(0, s, 7); e != api.OK {
			t.Errorf("%q: Insert: %d", s, e)
		}
		if e := b.insert(1, s, 8); e != api.ErrDirExist {
			t.Errorf("%q: Insert again: %d", s, e)
		}
		if num, e := b.d.Find(2, s); num != 7 || e != api.OK {
			t.Errorf("%q: Find: %d, error %d", s, num, e)
		}
		if e := b.remove(2, s); e != api.OK {
			t.Errorf("%q: Remove: %d", s, e)
		}
		if num, e := b.d.Find(0, s); num != 0 || e != api.ErrDirNone {
			t.Errorf("%q: Find behind Remove: %d, error %d", s, num, e)
		}
		if e := b.insert(1, s, 9); e != api.OK {
			t.Errorf("%q: Insert behind Remove: %d", s, e)
		}
		if num, e := b.d.Find(0, s); num != 9 || e != api.OK {
			t.Errorf("%q: Find at the end: %d, error %d", s, num, e)
		}
		b.close()
	}
}

// P9.1: numbers from the least to the greatest; two names may have one number.
func TestNumbers(t *testing.T) {
	for _, num := range []int{1, 2, 3, 127, 128, 255, 256, 1 << 16, 1 << 24, 1 << 30, mostNumber - 1, mostNumber} {
		b := makeBook(t, 2, 0, leastWords, 0)
		if b.insert(0, "a", num) != api.OK || b.insert(1, "b", num) != api.OK || b.insert(0, "i", num) != api.OK {
			t.Errorf("number %d is refused", num)
		}
		b.move(1, "a", "c")
		if got, e := b.d.Find(0, "c"); got != num || e != api.OK {
			t.Errorf("%d, error %d, want %d", got, e, num)
		}
	}
}

// P9.1: a bucket has MaxSlots names, not one more, until one of them goes; filled, emptied and filled again.
func TestABucketFilled(t *testing.T) {
	for i, names := range byBucket(2 * api.MaxSlots) {
		b := makeBook(t, 2, 0, leastWords, 0)
		first, second := names[:api.MaxSlots], names[api.MaxSlots:]
		for k, s := range first {
			if e := b.insert(k%2, s, k+1); e != api.OK {
				t.Errorf("bucket %d, name %d: error %d", i, k, e)
			}
		}
		for k, s := range second {
			if e := b.insert(k%2, s, k+1); e != api.ErrDirFull {
				t.Errorf("bucket %d, name %d: error %d", i, api.MaxSlots+k, e)
			}
		}
		for k := range first {
			b.remove(1, first[k])
			if e := b.insert(0, second[k], 50+k); e != api.OK {
				t.Errorf("bucket %d: no room where one went: %d", i, e)
			}
			if e := b.insert(0, first[k], 1); e != api.ErrDirFull {
				t.Errorf("bucket %d: room for two where one went: %d", i, e)
			}
		}
		for k := range second {
			b.remove(k%2, second[len(second)-1-k])
		}
		for k, s := range first {
			b.insert(1, s, 90+k)
		}
	}
}

// P9.1: a name that is there is told as such even where its bucket is full.
func TestExistAheadOfFull(t *testing.T) {
	b := makeBook(t, 1, 0, leastWords, 0)
	b.fill(0)
	for s := range b.plain {
		if e := b.insert(0, s, 5); e != api.ErrDirExist {
			t.Errorf("%q: error %d", s, e)
		}
	}
}

// P9.1: all buckets full: 32 names; one more of any bucket is refused; another bucket's room is of no help.
func TestAllBucketsFull(t *testing.T) {
	b := makeBook(t, 3, 5, leastWords, 5)
	b.fill(1)
	more := byBucket(api.MaxSlots + 1)
	if got := len(b.d.List(0)); got != api.Buckets*api.MaxSlots {
		t.Errorf("%d names", got)
	}
	for i := range more {
		if e := b.insert(2, more[i][api.MaxSlots], 1); e != api.ErrDirFull {
			t.Errorf("bucket %d: error %d", i, e)
		}
	}
	for i := range more {
		b.remove(0, more[i][i%api.MaxSlots])
		for k := range more {
			if k > i {
				b.insert(0, more[k][api.MaxSlots], 1)
			}
		}
		if e := b.insert(1, more[i][api.MaxSlots], 1); e != api.OK {
			t.Errorf("bucket %d: error %d", i, e)
		}
	}
	for len(b.plain) > 0 {
		b.remove(1, b.sorted()[0].Name)
	}
	b.fill(0)
	b.close()
}

// P9.1: names that differ in one rune, by case, by their row of runes, by a rune more.
func TestNamesThatAreNearlyAlike(t *testing.T) {
	groups := [][]string{
		{"abcdefghijkl", "ibcdefghijkl", "abcdefghijkt", "abcdefgpijkl"},
		{"abcdefgh", "abcdefghi", "abcdefgp", "bacdefgh", "abcdefg", "abcdefghij", "abcdefghijk"},
		{"a", "A", "i", "I", "aa", "aaa", "aaaa", "q"},
		{"日本語の", "語本日の", "日本語は", "日語本の", "日本語", "日本", "日"},
		{"éa", "aé", "e\u0301a", "ea", "ée"},
		{"\u0100", "\u0110", "A\u0300", "\u00c0"},
		{"\U0001F600", "\U0001F608", "\uf600", "\U0010F600"},
		{".a", "..a", "...", "....", "a.", "a.."},
		{"\ufffd", "\ufffd\ufffd", "\ufff5", "\ufffda"},
	}
	for _, names := range groups {
		b := makeBook(t, 2, 0, leastWords, 0)
		b.names = slices.Clone(names)
		for i, s := range names {
			b.insert(i%2, s, i+1)
		}
		for i, s := range names {
			b.remove(i%2, s)
			b.insert(0, s, 100+i)
		}
		for _, s := range names {
			b.remove(1, s)
		}
	}
}

// P9.1: a name is kept as it was handed in, even if that was a piece of greater memory.
func TestNamesArePieces(t *testing.T) {
	b := makeBook(t, 1, 0, leastWords, 0)
	text := strings.Repeat("xyz日本語é", 3)
	b.insert(0, text[0:3], 1)
	b.insert(0, text[3:12], 2)
	b.insert(0, text[6:14], 3)
	b.insert(0, strings.Clone(text[0:3]), 4)
	b.move(0, text[3:12], text[2:14])
	b.remove(0, text[14:17])
	if text != strings.Repeat("xyz日本語é", 3) {
		t.Error("what was handed in is another")
	}
}

// P9.1: two directories of one arena, one behind the other, have entries of their own.
func TestTwoDirectories(t *testing.T) {
	a := makeArena(t, 2*leastWords, 2)
	one, e := dir.New(a, 0, leastWords)
	two, f := dir.New(a, leastWords, leastWords)
	if e != api.OK || f != api.OK {
		t.Fatalf("errors %d, %d", e, f)
	}
	b := &book{t: t, a: a, d: one, plain: map[string]int{}, from: 0, words: leastWords}
	c := &book{t: t, a: a, d: two, plain: map[string]int{}, from: leastWords, words: leastWords}
	g, names := row(3), somePool()
	for range 200 {
		someCall(&g, b, names)
		c.want()
		someCall(&g, c, names)
		b.want()
	}
}

// P9.1: buckets are layer 8's: a full one refuses just the names that name.Bucket puts there.
func TestBucketsAreOfNames(t *testing.T) {
	for i, names := range byBucket(api.MaxSlots) {
		b := makeBook(t, 1, 0, leastWords, 0)
		for k, s := range names {
			b.insert(0, s, k+1)
		}
		for k := range 40 {
			s := "new" + string(rune('A'+k))
			want := api.OK
			if name.Bucket(s) == i {
				want = api.ErrDirFull
			}
			if e := b.insert(0, s, 1); e != want {
				t.Errorf("bucket %d full, name of bucket %d: error %d", i, name.Bucket(s), e)
			}
			if want == api.OK {
				b.remove(0, s)
			}
		}
	}
}
