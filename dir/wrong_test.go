package dir_test

import (
	"math"
	"slices"
	"strings"
	"testing"

	"concourse/api"
	"concourse/arena"
	"concourse/dir"
)

// wantQuiet fails if any access is noted or a word is another than it was.
func wantQuiet(t *testing.T, a *arena.Arena, words []int) {
	t.Helper()
	for core := range a.Cores() {
		if trace := a.Trace(core); len(trace) != 0 {
			t.Errorf("core %d touched %v", core, trace)
		}
	}
	if !slices.Equal(allWords(a), words) {
		t.Error("a refused call wrote")
	}
}

// P9.1, R6: directories that are refused; nothing is touched.
func TestNewRefuses(t *testing.T) {
	a := makeArena(t, 700, 2)
	words := allWords(a)
	rows := [][2]int{
		{-1, 512}, {-1, 700}, {-2, 514}, {-700, 512}, {math.MinInt, 512}, {math.MinInt + 1, 700}, {-1, 0}, {-1, 5000},
		{0, 511}, {0, 510}, {0, 256}, {0, 128}, {0, 96}, {0, 1}, {0, 0}, {0, -1}, {0, -512}, {0, math.MinInt}, {5, 511}, {189, 511},
		{0, 701}, {1, 700}, {189, 512}, {188, 513}, {200, 512}, {699, 512}, {700, 512}, {701, 512}, {1212, 512}, {700, 0}, {700, -1},
		{0, math.MaxInt}, {1, math.MaxInt}, {0, 1 << 62}, {math.MaxInt, 512}, {math.MaxInt - 511, 512}, {math.MaxInt - 100, 512},
		{1 << 62, 1 << 62}, {math.MaxInt, math.MaxInt}, {1 << 32, 512}, {math.MinInt, math.MinInt}, {math.MinInt, math.MaxInt},
	}
	for _, c := range rows {
		if d, e := dir.New(a, c[0], c[1]); d != nil || e != api.ErrDirForm {
			t.Errorf("from %d, %d words: error %d", c[0], c[1], e)
		}
		if d, e := dir.New(nil, c[0], c[1]); d != nil || e != api.ErrNil {
			t.Errorf("no arena, from %d, %d words: error %d", c[0], c[1], e)
		}
	}
	if d, e := dir.New(nil, 0, 512); d != nil || e != api.ErrNil {
		t.Errorf("no arena: error %d", e)
	}
	wantQuiet(t, a, words)
	for _, c := range [][2]int{{0, 512}, {188, 512}, {0, 700}, {1, 699}, {187, 513}} {
		if d, e := dir.New(a, c[0], c[1]); d == nil || e != api.OK {
			t.Errorf("from %d, %d words: error %d", c[0], c[1], e)
		}
	}
}

// P9.1: an arena of just 512 words, and of one word fewer.
func TestLeastArena(t *testing.T) {
	for cores := 1; cores <= api.MaxCores; cores++ {
		a := makeArena(t, 511, cores)
		words := allWords(a)
		for _, n := range []int{510, 511, 512} {
			if d, e := dir.New(a, 0, n); d != nil || e != api.ErrDirForm {
				t.Errorf("%d words of 511: error %d", n, e)
			}
		}
		wantQuiet(t, a, words)
		makeBook(t, cores, 0, 512, 0).fill(cores - 1)
	}
}

// wrongCores are numbers of cores, of which there are n, that are none.
func wrongCores(n int) []int {
	return []int{-1, -2, -8, n, n + 1, n + 8, 1 << 32, math.MinInt, math.MinInt + 1, math.MaxInt, math.MaxInt - 1}
}

// wrongNames are texts that may not be names.
func wrongNames() []string {
	return []string{
		"", ".", "..", "/", "a/b", "/a", "a/", "\x00", "a\x00", "\x1f", "a\x1fb", "\x7f", "a\x7f", "\n", "\xff", "é\xc3", "a\x80",
		"\xed\xa0\x80", "\xc0\xaf", "1234567890123", "日本語のa", "////////////////", strings.Repeat("a", 1000), strings.Repeat("\xff", 13),
		"\U0001F600\U0001F600\U0001F600x", "\xf4\x90\x80\x80",
	}
}

// wrongNumbers are numbers that an entry may not have.
func wrongNumbers() []int {
	return []int{0, -1, -2, -mostNumber, 1 << 31, 1<<31 + 1, 1 << 32, 1<<32 + 1, 1 << 62, math.MinInt, math.MinInt + 1, math.MaxInt, -1 << 31}
}

// wantRefused fails unless every call answers this error of a core, a name and a number, and no number beside it.
func wantRefused(b *book, core int, s string, num int, want api.Errno) {
	b.t.Helper()
	got, e := b.d.Find(core, s)
	insert, remove := b.d.Insert(core, s, num), b.d.Remove(core, s)
	if got != 0 || e != want || insert != want || remove != want {
		b.t.Errorf("core %d, name %q, number %d: Find %d, error %d, Insert %d, Remove %d, want %d", core, s, num, got, e, insert, remove, want)
	}
	wantMovesRefused(b, core, s, want)
}

// wantMovesRefused fails unless Moves from and to a name, of others that are there, that are not, that may not be,
// answer this error.
func wantMovesRefused(b *book, core int, s string, want api.Errno) {
	b.t.Helper()
	for _, other := range []string{"a", "new", "x", "", "/", s} {
		if e, f := b.d.Move(core, s, other), b.d.Move(core, other, s); e != want || f != want {
			b.t.Errorf("core %d: Move of %q and %q: %d, %d, want %d", core, s, other, e, f, want)
		}
	}
}

// wrongBook is a directory with names that are there, that are not, and whose bucket is full.
func wrongBook(t *testing.T, cores int) *book {
	t.Helper()
	b := makeBook(t, cores, 7, 515, 9)
	for i, s := range []string{"a", "i", "q", "y", "ab", "日本語"} {
		b.insert(cores-1, s, i+1)
	}
	b.remove(0, "ab")
	b.names = append(b.names, "x", "new", "A")
	b.want()
	return b
}

// P9.1, R6: cores that there are not: refused ahead of all else; List tells none; no word changes, nothing is noted.
func TestWrongCores(t *testing.T) {
	for _, cores := range []int{1, 2, 5, api.MaxCores} {
		b := wrongBook(t, cores)
		words := allWords(b.a)
		for _, core := range wrongCores(cores) {
			for _, s := range append(wrongNames(), "a", "new", "A", "日本語") {
				for _, num := range []int{1, 0, -1, mostNumber, 1 << 31} {
					wantRefused(b, core, s, num, api.ErrDirForm)
				}
			}
			if got := b.d.List(core); len(got) != 0 {
				t.Errorf("List of core %d: %v", core, got)
			}
		}
		wantQuiet(t, b.a, words)
		b.want()
		b.close()
	}
}

// P9.1: names that may not be, in Move the first and the second.
func TestWrongNames(t *testing.T) {
	b := wrongBook(t, 3)
	words := allWords(b.a)
	for core := range 3 {
		for _, s := range wrongNames() {
			for _, num := range []int{1, 7, mostNumber, 0, 1 << 31} {
				wantRefused(b, core, s, num, api.ErrDirForm)
			}
		}
	}
	wantQuiet(t, b.a, words)
	b.want()
	b.close()
}

// P9.1, R6: numbers that may not be, of a name that is not there, that is there, whose bucket is full.
func TestWrongNumbers(t *testing.T) {
	b := wrongBook(t, 2)
	words := allWords(b.a)
	for core := range 2 {
		for _, num := range wrongNumbers() {
			for _, s := range []string{"new", "a", "日本語", "A", "I", "ab", ""} {
				if e := b.d.Insert(core, s, num); e != api.ErrDirForm {
					t.Errorf("Insert(%d, %q, %d): error %d", core, s, num, e)
				}
			}
		}
	}
	wantQuiet(t, b.a, words)
	b.want()
	if b.insert(0, "a", 1) != api.ErrDirExist || b.insert(0, "A", 1) != api.ErrDirFull || b.insert(0, "new", mostNumber) != api.OK {
		t.Error("numbers that may be are refused")
	}
}

// R3: no directory.
func TestNilDir(t *testing.T) {
	var none *dir.Dir
	for _, core := range []int{0, 1, -1, 8, math.MaxInt, math.MinInt} {
		for _, s := range []string{"a", "", "/", "1234567890123"} {
			got, e := none.Find(core, s)
			if got != 0 || e != api.ErrNil || none.Remove(core, s) != api.ErrNil {
				t.Errorf("core %d, name %q: %d, error %d", core, s, got, e)
			}
			if none.Insert(core, s, 1) != api.ErrNil || none.Insert(core, s, 0) != api.ErrNil {
				t.Errorf("core %d, name %q: Insert is not ErrNil", core, s)
			}
			if none.Move(core, s, "b") != api.ErrNil || none.Move(core, "b", s) != api.ErrNil {
				t.Errorf("core %d, name %q: Move is not ErrNil", core, s)
			}
		}
		if got := none.List(core); len(got) != 0 {
			t.Errorf("List %v", got)
		}
	}
}

// R1: a directory that New did not make has no core; an arena that was not made has no room.
func TestDirThatWasNotMade(t *testing.T) {
	d := new(dir.Dir)
	got, e := d.Find(0, "a")
	if got != 0 || e != api.ErrDirForm || d.Insert(0, "a", 1) != api.ErrDirForm || d.Remove(0, "a") != api.ErrDirForm {
		t.Errorf("Find %d, error %d", got, e)
	}
	if d.Move(0, "a", "b") != api.ErrDirForm || len(d.List(0)) != 0 {
		t.Error("a bare directory moves or lists")
	}
	if d, e := dir.New(new(arena.Arena), 0, leastWords); d != nil || e != api.ErrDirForm {
		t.Errorf("a bare arena: error %d", e)
	}
}

// R1: whatever somebody stores into the directory's words, the calls end, and touch nothing outside.
func TestWordsThatSomebodyStoredTo(t *testing.T) {
	names := somePool()
	for seed := range 20 {
		g := row(seed)
		cores := 1 + g.below(api.MaxCores)
		b := makeBook(t, cores, 10, leastWords, 10)
		for range 20 {
			for at := b.from; at < b.from+b.words; at++ {
				v := []int{0, 1, 4, 97, 128, -1, math.MaxInt, math.MinInt, g.below(1 << 30)}[g.below(9)]
				b.a.Store(0, at, v)
			}
			clearTraces(b.a)
			core, s, to := g.below(cores), names[g.below(len(names))], names[g.below(len(names))]
			b.d.Find(core, s)
			b.d.Insert(core, s, 1)
			b.d.Move(core, s, to)
			b.d.List(core)
			b.d.Remove(core, to)
			for _, access := range b.a.Trace(core) {
				if access.At < b.from || access.At >= b.from+b.words {
					t.Fatalf("word %d, outside, was touched", access.At)
				}
			}
		}
		b.close()
	}
}
