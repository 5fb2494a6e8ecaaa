package dir_test

import (
	"slices"
	"testing"

	"concourse/api"
)

// somePool gives names enough to fill every bucket, and more.
func somePool() []string {
	names := []string{"a", "aa", "aaa", "aaaaaaaaaaaa", "é", "日本語の", "\U0001F600\U0001F600\U0001F600", "..."}
	for _, more := range byBucket(api.MaxSlots + 2) {
		names = append(names, more...)
	}
	return names
}

// someCall does a call that is not refused for its inputs; with more names inserted than removed, as with fewer.
func someCall(g *row, b *book, names []string) {
	b.t.Helper()
	core, s := g.below(b.a.Cores()), names[g.below(len(names))]
	if there := b.sorted(); len(there) > 0 && g.below(3) == 0 {
		s = there[g.below(len(there))].Name
	}
	switch kind := g.below(8); {
	case kind < 4:
		b.insert(core, s, []int{1, 2, mostNumber, 1 + g.below(mostNumber)}[g.below(4)])
	case kind < 6:
		b.move(core, s, names[g.below(len(names))])
	default:
		b.remove(core, s)
	}
}

// P9.1: long rows of calls of several cores, held against the plain entries behind each of them.
func TestRows(t *testing.T) {
	for seed := range 40 {
		g := row(seed)
		b := makeBook(t, 1+g.below(api.MaxCores), g.below(40), leastWords+g.below(40), g.below(40))
		names := somePool()
		if seed%4 == 0 {
			names = names[:12] // few names: more of the calls are of ones that are there
		}
		for range 200 {
			someCall(&g, b, names)
		}
		b.close()
	}
}

// P9.1: a directory is filled and emptied as often as one likes within 512 words.
func TestFilledAndEmptiedForLong(t *testing.T) {
	b := makeBook(t, 2, 5, leastWords, 5)
	names := byBucket(api.MaxSlots)
	for k := range 2000 {
		for i := range names {
			for _, s := range names[i] {
				if e := b.d.Insert(k%2, s, k+1); e != api.OK {
					t.Fatalf("Insert of %q the %d. time: error %d", s, k, e)
				}
			}
		}
		for i := range names {
			for j := range names[i] {
				if e := b.d.Remove((k+1)%2, names[i][(j+k)%api.MaxSlots]); e != api.OK {
					t.Fatalf("Remove the %d. time: error %d", k, e)
				}
			}
		}
		clearTraces(b.a)
	}
	b.want()
	b.close()
}

// R5: asking, however often, changes nothing.
func TestAskingChangesNothing(t *testing.T) {
	b := makeBook(t, 3, 2, leastWords, 2)
	g, names := row(12), somePool()
	for range 100 {
		someCall(&g, b, names)
		words := allWords(b.a)
		for range 2 {
			b.want()
		}
		if !slices.Equal(allWords(b.a), words) {
			t.Fatal("asking wrote")
		}
	}
}

// R5: a call that answers an error leaves every word as it was.
func TestErrorsChangeNothing(t *testing.T) {
	b := makeBook(t, 2, 2, leastWords, 2)
	g, names := row(5), somePool()
	seen := map[api.Errno]int{}
	for range 1500 {
		words := allWords(b.a)
		core, s, to := g.below(2), names[g.below(len(names))], names[g.below(len(names))]
		var e api.Errno
		switch g.below(5) {
		case 0, 1:
			e = b.insert(core, s, 1+g.below(9))
		case 2:
			e = b.remove(core, s)
		default:
			e = b.move(core, s, to)
		}
		seen[e]++
		if e != api.OK && !slices.Equal(allWords(b.a), words) {
			t.Fatalf("error %d, and a word is another", e)
		}
	}
	for _, e := range []api.Errno{api.OK, api.ErrDirNone, api.ErrDirExist, api.ErrDirFull} {
		if seen[e] < 20 {
			t.Errorf("error %d came %d times alone", e, seen[e])
		}
	}
}

// Entries, names too, are kept in the words: where these are again as they were, so is the directory.
func TestEntriesAreKeptInWords(t *testing.T) {
	b := makeBook(t, 2, 3, leastWords, 3)
	g, names := row(8), somePool()
	for range 20 {
		words, plain := allWords(b.a), b.sorted()
		for range 30 {
			someCall(&g, b, names)
		}
		for at, v := range words {
			b.a.Store(0, at, v)
		}
		clear(b.plain)
		for _, entry := range plain {
			b.plain[entry.Name] = entry.Num
		}
		b.want()
		for range 5 {
			someCall(&g, b, names)
		}
	}
}
