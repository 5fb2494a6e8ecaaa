package dir_test

import (
	"bytes"
	"slices"
	"strconv"
	"testing"

	"concourse/api"
	"concourse/arena"
	"concourse/dir"
	"concourse/name"
)

const (
	leastWords = 512 // as the chapter says
	mostNumber = 1<<31 - 1
)

// row is a row of numbers that is the same in each run.
type row uint64

func (r *row) below(n int) int {
	*r = *r*6364136223846793005 + 1442695040888963407
	return int(uint64(*r) >> 33 % uint64(n))
}

// book is a directory with the plainest thing that keeps the chapter beside it, each call held against that.
type book struct {
	t           *testing.T
	a           *arena.Arena
	d           *dir.Dir
	plain       map[string]int
	names       []string // that were ever asked for
	from, words int
}

// makeBook gives a directory of so many words within an arena that has so many ahead of them and behind them, none of them 0.
func makeBook(t *testing.T, cores, ahead, words, behind int) *book {
	t.Helper()
	a := makeArena(t, ahead+words+behind, cores)
	d, e := dir.New(a, ahead, words)
	if e != api.OK || d == nil {
		t.Fatalf("New of %d cores, from %d, %d words: error %d", cores, ahead, words, e)
	}
	b := &book{t: t, a: a, d: d, plain: map[string]int{}, from: ahead, words: words}
	b.want()
	return b
}

// makeArena gives an arena of so many words and cores, each word with a number of its own, none of them 0.
func makeArena(t *testing.T, words, cores int) *arena.Arena {
	t.Helper()
	a, e := arena.New(words, cores)
	if e != api.OK {
		t.Fatalf("arena.New(%d, %d): error %d", words, cores, e)
	}
	for at := range words {
		a.Store(0, at, ownNumber(at))
	}
	a.Clear(0)
	return a
}

// ownNumber has high and low bits set, of every place others.
func ownNumber(at int) int { return -1 - at*0x1_0001_0001 }

// clearTraces forgets what every core touched.
func clearTraces(a *arena.Arena) {
	for core := range a.Cores() {
		a.Clear(core)
	}
}

// allWords reads every word; it leaves the traces empty.
func allWords(a *arena.Arena) []int {
	words := make([]int, a.Words())
	for at := range words {
		words[at], _ = a.Load(0, at)
	}
	clearTraces(a)
	return words
}

// sameBucket counts the names of one's bucket, but for one.
func (b *book) sameBucket(s, but string) int {
	count := 0
	for other := range b.plain {
		if other != but && name.Bucket(other) == name.Bucket(s) {
			count++
		}
	}
	return count
}

// insert does the call, and fails unless it answers what the plain entries say.
func (b *book) insert(core int, s string, num int) api.Errno {
	b.t.Helper()
	want := api.OK
	if _, is := b.plain[s]; is {
		want = api.ErrDirExist
	} else if b.sameBucket(s, s) >= api.MaxSlots {
		want = api.ErrDirFull
	} else {
		b.plain[s] = num
	}
	if e := b.d.Insert(core, s, num); e != want {
		b.t.Fatalf("Insert(%d, %q, %d): error %d, want %d", core, s, num, e, want)
	}
	b.note(s)
	return want
}

// remove is likewise.
func (b *book) remove(core int, s string) api.Errno {
	b.t.Helper()
	want := api.OK
	if _, is := b.plain[s]; !is {
		want = api.ErrDirNone
	}
	delete(b.plain, s)
	if e := b.d.Remove(core, s); e != want {
		b.t.Fatalf("Remove(%d, %q): error %d, want %d", core, s, e, want)
	}
	b.note(s)
	return want
}

// move is likewise.
func (b *book) move(core int, s, to string) api.Errno {
	b.t.Helper()
	want := api.OK
	num, is := b.plain[s]
	_, there := b.plain[to]
	switch {
	case !is:
		want = api.ErrDirNone
	case there:
		want = api.ErrDirExist
	case b.sameBucket(to, s) >= api.MaxSlots:
		want = api.ErrDirFull
	default:
		delete(b.plain, s)
		b.plain[to] = num
	}
	if e := b.d.Move(core, s, to); e != want {
		b.t.Fatalf("Move(%d, %q, %q): error %d, want %d", core, s, to, e, want)
	}
	b.note(s)
	b.note(to)
	return want
}

// note keeps a name to ask for from now on, and fails unless all is as the plain entries say.
func (b *book) note(s string) {
	b.t.Helper()
	if !slices.Contains(b.names, s) {
		b.names = append(b.names, s)
	}
	b.want()
}

// want fails unless every core is told all that the plain entries hold.
func (b *book) want() {
	b.t.Helper()
	all := b.sorted()
	for core := range b.a.Cores() {
		if got := b.d.List(core); !slices.Equal(got, all) {
			b.t.Fatalf("List(%d): %v, want %v", core, got, all)
		}
	}
	for i, s := range b.names {
		num, is := b.plain[s]
		want := api.OK
		if !is {
			want = api.ErrDirNone
		}
		core := (i + len(all)) % b.a.Cores()
		if got, e := b.d.Find(core, s); got != num || e != want {
			b.t.Fatalf("Find(%d, %q): %d, error %d, want %d, %d", core, s, got, e, num, want)
		}
	}
	clearTraces(b.a)
}

// sorted are the plain entries, by name rising, byte by byte.
func (b *book) sorted() []api.Entry {
	var all []api.Entry
	for s, num := range b.plain {
		all = append(all, api.Entry{Name: s, Num: num})
	}
	slices.SortFunc(all, func(x, y api.Entry) int { return bytes.Compare([]byte(x.Name), []byte(y.Name)) })
	return all
}

// fill gives every bucket MaxSlots names.
func (b *book) fill(core int) {
	b.t.Helper()
	for i, names := range byBucket(api.MaxSlots) {
		for k, s := range names {
			if e := b.insert(core, s, 1+100*i+k); e != api.OK {
				b.t.Fatalf("Insert of %q, name %d of bucket %d: error %d", s, k, i, e)
			}
		}
	}
}

// close fails if words ahead of the directory's or behind them were written to.
func (b *book) close() {
	b.t.Helper()
	for at, v := range allWords(b.a) {
		if (at < b.from || at >= b.from+b.words) && v != ownNumber(at) {
			b.t.Fatalf("word %d, outside %d to %d, is %d", at, b.from, b.from+b.words-1, v)
		}
	}
}

// byBucket gives so many names of each bucket, of unlike lengths.
func byBucket(count int) [api.Buckets][]string {
	heads := []string{"n", "é", "日本", "\U0001F600", "name.of.", "éé", "", "語x"}
	var all [api.Buckets][]string
	for k, left := 0, api.Buckets*count; left > 0; k++ {
		s := heads[k%len(heads)] + strconv.Itoa(k)
		if at := name.Bucket(s); len(all[at]) < count {
			all[at] = append(all[at], s)
			left--
		}
	}
	return all
}
