package radix_test

import (
	"testing"

	"concourse/api"
)

// traceOf gathers what a call touched; it must be its core's alone, and within the tree's words.
func traceOf(b *book, core int, call func()) []api.Access {
	b.t.Helper()
	clearTraces(b.a)
	call()
	for other := range b.a.Cores() {
		for _, access := range b.a.Trace(other) {
			if other != core || access.At < b.from || access.At >= b.from+b.words {
				b.t.Fatalf("a call of core %d touched word %d as core %d", core, access.At, other)
			}
		}
	}
	return b.a.Trace(core)
}

// setTrace is what a Set touches; it writes something.
func setTrace(b *book, core, page, v int) []api.Access {
	b.t.Helper()
	trace := traceOf(b, core, func() {
		if e := b.r.Set(core, page, v); e != api.OK {
			b.t.Fatalf("Set(%d, %d, %d): error %d", core, page, v, e)
		}
	})
	for _, access := range trace {
		if access.Write {
			return trace
		}
	}
	b.t.Fatalf("Set(%d, %d, %d) wrote no word", core, page, v)
	return nil
}

// getTrace is what a Get touches.
func getTrace(b *book, core, page int) []api.Access {
	b.t.Helper()
	trace := traceOf(b, core, func() { b.r.Get(core, page) })
	if len(trace) == 0 {
		b.t.Fatalf("Get(%d, %d) touched no word", core, page)
	}
	return trace
}

// wantNoWrite fails if a call wrote.
func wantNoWrite(t *testing.T, trace []api.Access) {
	t.Helper()
	for _, access := range trace {
		if access.Write {
			t.Fatalf("word %d was written", access.At)
		}
	}
}

// wantApart fails if two calls touched one word that one of them wrote.
func wantApart(t *testing.T, one, two []api.Access) {
	t.Helper()
	for _, x := range one {
		for _, y := range two {
			if x.At == y.At && (x.Write || y.Write) {
				t.Fatalf("word %d: %v and %v meet", x.At, one, two)
			}
		}
	}
}

// wantPagesApart sets and gets every two unlike pages, by these cores, and holds the traces against each other.
func wantPagesApart(b *book, one, two int) {
	b.t.Helper()
	for page := range api.MaxPages {
		for other := range api.MaxPages {
			if page == other {
				continue
			}
			for _, v := range []int{1, 0, 77} {
				set := setTrace(b, one, page, v)
				wantApart(b.t, set, setTrace(b, two, other, 2*v))
				wantApart(b.t, set, getTrace(b, two, other))
				wantApart(b.t, setTrace(b, two, other, v), getTrace(b, one, page))
				wantApart(b.t, getTrace(b, one, page), getTrace(b, two, other))
			}
		}
	}
}

// P7.2: Sets and Gets of unlike pages that were set before meet in no word that one of them writes, by unlike cores.
func TestUnlikePagesOfUnlikeCores(t *testing.T) {
	b := makeBook(t, api.MaxCores, 3, leastWords, 3)
	b.setAll(0, 1)
	for one := range api.MaxCores {
		for two := range api.MaxCores {
			if one != two {
				wantPagesApart(b, one, two)
			}
		}
	}
}

// P7.2: the same by one core.
func TestUnlikePagesOfOneCore(t *testing.T) {
	for cores := 1; cores <= 3; cores++ {
		b := makeBook(t, cores, 0, leastWords+cores, 0)
		b.setAll(0, 1)
		for core := range cores {
			wantPagesApart(b, core, core)
		}
	}
}

// P7.2: pages whose only Set was to 0 were Set before too.
func TestUnlikePagesThatWereSetToZero(t *testing.T) {
	for page := range api.MaxPages {
		for other := range api.MaxPages {
			if page == other {
				continue
			}
			b := makeBook(t, 2, 0, leastWords, 0)
			b.set(0, page, 0)
			b.set(1, other, 0)
			set := setTrace(b, 0, page, 5)
			wantApart(t, set, getTrace(b, 1, other))
			wantApart(t, set, setTrace(b, 1, other, 6))
			wantApart(t, getTrace(b, 0, page), setTrace(b, 1, other, 7))
		}
	}
}

// P7.2: pages that were cut and set again were Set before and not cut since.
func TestUnlikePagesBehindCuts(t *testing.T) {
	for cut := 0; cut <= api.MaxPages; cut++ {
		b := makeBook(t, 2, 1, leastWords, 1)
		b.setAll(0, 1)
		b.cut(1, cut)
		b.setAll(1, 9)
		wantPagesApart(b, 0, 1)
	}
}

// P7.2: with only two pages set, whichever they are.
func TestTwoPagesAlone(t *testing.T) {
	for page := range api.MaxPages {
		for other := range page {
			b := makeBook(t, 2, 0, leastWords, 0)
			b.set(0, page, 3)
			b.set(1, other, 4)
			for _, v := range []int{5, 0, 6} {
				set := setTrace(b, 0, page, v)
				wantApart(t, set, getTrace(b, 1, other))
				wantApart(t, set, setTrace(b, 1, other, v))
				wantApart(t, setTrace(b, 1, other, v+1), getTrace(b, 0, page))
			}
		}
	}
}

// P7.2: in any row of Sets and Gets among them, by cores that each have pages of their own, nobody meets anybody.
func TestCoresWithPagesOfTheirOwn(t *testing.T) {
	for seed := range 20 {
		g := row(seed)
		cores := 2 + g.below(api.MaxCores-1)
		b := makeBook(t, cores, 4, leastWords, 4)
		b.setAll(0, 1)
		clearTraces(b.a)
		for range 200 {
			page := g.below(api.MaxPages)
			core := page * 5 % cores
			if g.below(2) == 0 {
				b.r.Set(core, page, g.below(4))
			} else {
				b.r.Get(core, page)
			}
		}
		for core := range cores {
			for other := range core {
				wantApart(t, b.a.Trace(core), b.a.Trace(other))
			}
		}
	}
}

// P7.2: Gets and Pages touch words by reading alone: of pages never set, set, set to 0, cut.
func TestAskingReadsAlone(t *testing.T) {
	for seed := range 20 {
		g := row(seed)
		b := makeBook(t, 1+g.below(api.MaxCores), 2, leastWords, 2)
		for range 20 {
			for core := range b.a.Cores() {
				for page := range api.MaxPages {
					wantNoWrite(t, getTrace(b, core, page))
				}
				wantNoWrite(t, traceOf(b, core, func() { b.r.Pages(core) }))
			}
			someCall(&g, b)
		}
	}
}

// P7.2: a number is kept in words that calls touch: a Get reads what the last Set of its page wrote.
func TestAGetReadsWhatASetWrote(t *testing.T) {
	b := makeBook(t, 2, 0, leastWords, 0)
	for page := range api.MaxPages {
		wrote := map[int]int{}
		for _, access := range setTrace(b, 0, page, 9) {
			if access.Write {
				wrote[access.At]++
			}
		}
		read := 0
		for _, access := range getTrace(b, 1, page) {
			read += wrote[access.At]
		}
		if read == 0 {
			t.Errorf("page %d: Get reads no word that Set wrote", page)
		}
	}
}

// More than P7.2 asks, for the layers above: pages that were never set do not meet either, and a Cut that changes
// nothing reads alone.
func TestUnlikePagesThatWereNeverSet(t *testing.T) {
	for page := range api.MaxPages {
		for other := range api.MaxPages {
			if page == other {
				continue
			}
			b := makeBook(t, 2, 0, leastWords, 0)
			get := getTrace(b, 1, other)
			set := setTrace(b, 0, page, 5)
			wantApart(t, set, get)
			wantApart(t, set, setTrace(b, 1, other, 6))
			behind := max(page, other) + 1
			wantNoWrite(t, traceOf(b, 0, func() { b.r.Cut(0, behind) }))
		}
	}
}
