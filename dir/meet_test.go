package dir_test

import (
	"testing"

	"concourse/api"
)

// traceOf gathers what a call touched; it must be its core's alone, and within the directory's words.
func traceOf(b *book, core int, call func()) []api.Access {
	b.t.Helper()
	clearTraces(b.a)
	call()
	for other := range b.a.Cores() {
		for _, access := range b.a.Trace(other) {
			if other != core || access.At < b.from || access.At >= b.from+b.words {
				b.t.Fatalf("a call of core %d touched word %d as core %d", core, access.At, other)
			}
		}
	}
	return b.a.Trace(core)
}

// wantNoWrite fails if a call wrote.
func wantNoWrite(t *testing.T, trace []api.Access) {
	t.Helper()
	for _, access := range trace {
		if access.Write {
			t.Fatalf("word %d was written", access.At)
		}
	}
}

// wantApart fails if two calls touched one word that one of them wrote.
func wantApart(t *testing.T, one, two []api.Access) {
	t.Helper()
	for _, x := range one {
		for _, y := range two {
			if x.At == y.At && (x.Write || y.Write) {
				t.Fatalf("word %d: %v and %v meet", x.At, one, two)
			}
		}
	}
}

// callsOf gathers what calls of names of one bucket touch, one behind the other: Finds, Inserts and Removes of names
// that are there and that are not, from an empty bucket to a full one, with an Insert that finds no room, and back.
func callsOf(b *book, core int, names []string) []api.Access {
	b.t.Helper()
	full := names[:api.MaxSlots]
	wrote := 0
	trace := traceOf(b, core, func() {
		seen := map[api.Errno]int{}
		find := func(s string) api.Errno {
			_, e := b.d.Find(core, s)
			return e
		}
		for i, s := range full {
			seen[find(s)]++
			seen[b.d.Remove(core, s)]++
			seen[b.d.Insert(core, s, i+1)]++
			seen[b.d.Insert(core, s, i+2)]++
			seen[find(s)]++
		}
		seen[b.d.Insert(core, names[api.MaxSlots], 1)]++
		for _, s := range full {
			seen[b.d.Remove(core, s)]++
		}
		if seen[api.ErrDirFull] != 1 || seen[api.ErrDirExist] != 4 || seen[api.ErrDirNone] != 8 || seen[api.OK] != 12 {
			b.t.Fatalf("answers %v", seen)
		}
	})
	for _, access := range trace {
		if access.Write {
			wrote++
		}
	}
	if wrote == 0 {
		b.t.Fatal("no word was written")
	}
	return trace
}

// wantBucketsApart holds the calls of names of every two unlike buckets against each other, by these cores.
func wantBucketsApart(b *book, one, two int) {
	b.t.Helper()
	names := byBucket(api.MaxSlots + 1)
	for i := range names {
		trace := callsOf(b, one, names[i])
		for k := range names {
			if k != i {
				wantApart(b.t, trace, callsOf(b, two, names[k]))
			}
		}
	}
}

// P9.2: Finds, Inserts and Removes of names of unlike buckets meet in no word that one of them writes, by unlike cores.
func TestUnlikeBucketsOfUnlikeCores(t *testing.T) {
	b := makeBook(t, api.MaxCores, 3, leastWords, 3)
	for one := range api.MaxCores {
		wantBucketsApart(b, one, (one+1)%api.MaxCores)
		wantBucketsApart(b, one, (one+5)%api.MaxCores)
	}
}

// P9.2: the same by one core.
func TestUnlikeBucketsOfOneCore(t *testing.T) {
	for cores := 1; cores <= 3; cores++ {
		b := makeBook(t, cores, 0, leastWords+cores, 0)
		for core := range cores {
			wantBucketsApart(b, core, core)
		}
	}
}

// P9.2: the same where the other buckets are full.
func TestUnlikeBucketsThatAreFull(t *testing.T) {
	names := byBucket(api.MaxSlots + 1)
	for i := range names {
		for k := range names {
			if i == k {
				continue
			}
			b := makeBook(t, 2, 1, leastWords, 1)
			b.fill(0)
			for at := range api.MaxSlots {
				one := traceOf(b, 0, func() {
					b.d.Insert(0, names[i][api.MaxSlots], 5)
					b.d.Remove(0, names[i][at])
					b.d.Insert(0, names[i][at], 6)
				})
				two := traceOf(b, 1, func() {
					b.d.Find(1, names[k][at])
					b.d.Find(1, names[k][api.MaxSlots])
				})
				three := traceOf(b, 1, func() {
					b.d.Remove(1, names[k][at])
					b.d.Insert(1, names[k][at], 7)
				})
				wantApart(t, one, two)
				wantApart(t, one, three)
			}
		}
	}
}

// P9.2: in any row of calls, by cores that each have buckets of their own, nobody meets anybody.
func TestCoresWithBucketsOfTheirOwn(t *testing.T) {
	names := byBucket(api.MaxSlots + 2)
	for seed := range 20 {
		g := row(seed)
		cores := 2 + g.below(api.MaxCores-1)
		b := makeBook(t, cores, 4, leastWords, 4)
		for range 300 {
			i := g.below(api.Buckets)
			core, s := i*5%cores, names[i][g.below(len(names[i]))]
			switch g.below(4) {
			case 0, 1:
				b.d.Insert(core, s, 1+g.below(99))
			case 2:
				b.d.Remove(core, s)
			default:
				b.d.Find(core, s)
			}
		}
		for core := range cores {
			for other := range core {
				wantApart(t, b.a.Trace(core), b.a.Trace(other))
			}
		}
	}
}

// P9.2: Finds and List touch words by reading alone: of names that are there, that are not, that were.
func TestAskingReadsAlone(t *testing.T) {
	names := somePool()
	for seed := range 10 {
		g := row(seed)
		b := makeBook(t, 1+g.below(api.MaxCores), 2, leastWords, 2)
		for range 20 {
			for core := range b.a.Cores() {
				for _, s := range names {
					wantNoWrite(t, traceOf(b, core, func() { b.d.Find(core, s) }))
				}
				wantNoWrite(t, traceOf(b, core, func() { b.d.List(core) }))
			}
			for range 5 {
				someCall(&g, b, names)
			}
		}
	}
}

// P9.2: what is asked is read from words that calls touch: a Find, and a List, read what the last Insert wrote.
func TestAskingReadsWhatAnInsertWrote(t *testing.T) {
	b := makeBook(t, 2, 0, leastWords, 0)
	for _, names := range byBucket(api.MaxSlots) {
		for _, s := range names {
			wrote := map[int]int{}
			for _, access := range traceOf(b, 0, func() { b.d.Insert(0, s, 9) }) {
				if access.Write {
					wrote[access.At]++
				}
			}
			for what, call := range map[string]func(){"Find": func() { b.d.Find(1, s) }, "List": func() { b.d.List(1) }} {
				read := 0
				for _, access := range traceOf(b, 1, call) {
					read += wrote[access.At]
				}
				if read == 0 {
					t.Errorf("%q: %s reads no word that Insert wrote", s, what)
				}
			}
		}
	}
}

// unlikeWords counts the words that a trace names.
func unlikeWords(trace []api.Access) int {
	words := map[int]int{}
	for _, access := range trace {
		words[access.At]++
	}
	return len(words)
}

// More than P9.2 asks, for the layers above: calls that answer an error read alone, a Move touches the buckets of its
// two names alone, and calls of one bucket touch no more words than a step may.
func TestWhatOtherCallsTouch(t *testing.T) {
	names := byBucket(api.MaxSlots + 1)
	b := makeBook(t, 2, 0, leastWords, 0)
	b.fill(0)
	for i := range names {
		k, other := (i+1)%api.Buckets, (i+2)%api.Buckets
		is, new := names[i][2], names[i][api.MaxSlots]
		calls := []func(){
			func() { b.d.Insert(0, new, 1) }, func() { b.d.Insert(0, is, 1) }, func() { b.d.Remove(0, new) },
			func() { b.d.Move(0, new, is) }, func() { b.d.Move(0, is, is) }, func() { b.d.Move(0, is, names[k][api.MaxSlots]) },
		}
		for _, call := range calls {
			wantNoWrite(t, traceOf(b, 0, call))
		}
		all := traceOf(b, 0, func() { b.d.Move(0, is, new) })
		if n := unlikeWords(all); n > api.MaxTouch {
			t.Errorf("a Move within a bucket touched %d words", n)
		}
		b.d.Remove(0, new)
		all = append(all, traceOf(b, 0, func() { b.d.Move(0, names[k][0], new) })...)
		all = append(all, traceOf(b, 0, func() { b.d.Move(0, new, names[k][0]) })...)
		for _, s := range names[other] {
			find := traceOf(b, 1, func() { b.d.Find(1, s) })
			change := traceOf(b, 1, func() { b.d.Remove(1, s) })
			change = append(change, traceOf(b, 1, func() { b.d.Insert(1, s, 3) })...)
			wantApart(t, all, find)
			wantApart(t, all, change)
			if n := unlikeWords(append(find, change...)); n > api.MaxTouch {
				t.Errorf("calls of one bucket touched %d words", n)
			}
		}
		b.d.Insert(0, is, 4)
	}
}
