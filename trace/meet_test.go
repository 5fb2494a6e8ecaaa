package trace_test

import (
	"slices"
	"testing"

	"concourse/api"
	"concourse/arena"
)

// P23.1: what writes and what reads the place that both have.
func TestMeetAtOnePlace(t *testing.T) {
	for _, at := range edges() {
		wantMeet(t, of(read(at)), of(read(at)), false)
		wantMeet(t, of(write(at)), of(read(at)), true)
		wantMeet(t, of(read(at)), of(write(at)), true)
		wantMeet(t, of(write(at)), of(write(at)), true)
	}
}

// P23.1: a trace without an access meets none, itself neither.
func TestMeetOfNothing(t *testing.T) {
	for _, empty := range [][]api.Access{nil, {}, make([]api.Access, 0, 4)} {
		for _, b := range [][]api.Access{nil, {}, of(read(0)), of(write(0)), of(write(-1), read(1), write(0))} {
			wantMeet(t, empty, b, false)
		}
	}
}

// P23.1: each writes, but no place that the other has.
func TestMeetOfUnlikePlaces(t *testing.T) {
	wantMeet(t, of(write(1), read(3), write(5)), of(write(2), read(4), write(6)), false)
	wantMeet(t, of(write(1), write(2), write(3)), of(write(4), write(5), write(6)), false)
	wantMeet(t, of(write(9), read(1)), of(write(5), write(4)), false)
	for i, at := range edges() {
		for j, other := range edges() {
			wantMeet(t, of(write(at)), of(write(other)), i == j)
		}
	}
}

// P23.1: both read one place, and write others that the other does not have.
func TestMeetOfSharedReads(t *testing.T) {
	wantMeet(t, of(read(4), write(1)), of(write(2), read(4)), false)
	wantMeet(t, of(write(3), read(4), read(5), read(4)), of(read(4), write(6), read(5)), false)
	wantMeet(t, of(read(7), read(8), read(9)), of(read(9), read(8), read(7)), false)
}

// P23.1: one of several places that both have is written by one of them.
func TestMeetAtOneOfSeveralPlaces(t *testing.T) {
	for at := range 5 {
		var a []api.Access
		for other := range 5 {
			a = append(a, api.Access{At: other, Write: other == at})
		}
		wantMeet(t, a, of(read(4), read(2), read(0), read(1), read(3)), true)
		wantMeet(t, a, of(read((at+1)%5), read((at+2)%5), read((at+3)%5), read((at+4)%5)), false)
		wantMeet(t, a, of(read(at)), true)
	}
}

// P23.1: a trace both reads and writes a place, in either row.
func TestMeetWhereOneReadsAndWrites(t *testing.T) {
	for _, a := range [][]api.Access{
		of(read(3), write(3)), of(write(3), read(3)), of(read(3), write(3), read(3)), of(read(3), read(3), read(3), write(3)),
		of(write(3), read(3), read(2), read(3)), of(read(3), read(9), write(3), read(1)),
	} {
		wantMeet(t, a, of(read(3)), true)
		wantMeet(t, a, of(write(3)), true)
		wantMeet(t, a, of(read(4), read(3)), true)
		wantMeet(t, a, a, true)
		wantMeet(t, a, of(read(4), write(5)), false)
	}
}

// P23.1: a trace meets itself just if it writes.
func TestMeetOfOneTraceWithItself(t *testing.T) {
	r := row(1)
	wantMeet(t, of(read(1), read(2), read(1)), of(read(1), read(2), read(1)), false)
	for range 500 {
		a := r.trace(r.below(30), edges(), r.below(20))
		wantMeet(t, a, a, slices.ContainsFunc(a, func(x api.Access) bool { return x.Write }))
	}
}

// P23.1: a trace meets a part of itself just if that part has a place that the whole writes.
func TestMeetOfParts(t *testing.T) {
	r := row(2)
	for range 500 {
		a := r.trace(1+r.below(30), upTo(10), 8)
		from := r.below(len(a))
		part := a[from : from+r.below(len(a)-from+1)]
		wantMeet(t, a, part, plainMeet(a, part))
	}
}

// P23.1: all pairs of traces of up to three accesses to three places.
func TestMeetOfAllShortTraces(t *testing.T) {
	all := allTraces(3, -1, 0, 1)
	for _, a := range all {
		for _, b := range all {
			wantMeet(t, a, b, plainMeet(a, b))
		}
	}
}

// P23.1: drawn pairs, of few places and of many, that write often, seldom and never.
func TestMeetOfDrawnTraces(t *testing.T) {
	r := row(3)
	seen := map[bool]int{}
	for _, places := range [][]int{upTo(3), upTo(20), upTo(200), edges()} {
		for range 3000 {
			a := r.trace(r.below(25), places, r.below(12))
			b := r.trace(r.below(25), places, r.below(12))
			want := plainMeet(a, b)
			seen[want]++
			wantMeet(t, a, b, want)
		}
	}
	if seen[true] < 2000 || seen[false] < 2000 {
		t.Errorf("drawn too much alike: %v", seen)
	}
}

// P23.1: long traces that meet at one place alone, be it the first, a middle or the last one, or at none.
func TestMeetOfLongTraces(t *testing.T) {
	const many = 3000
	for _, at := range []int{0, 1, many / 2, many - 1, -1, many} {
		var a, b []api.Access
		for i := range many {
			a = append(a, read(i), write(many+1+i))
			b = append(b, read(many-1-i), write(-2-i))
		}
		wantMeet(t, a, b, false)
		wantMeet(t, append(slices.Clone(a), write(at)), b, at >= 0 && at < many)
		wantMeet(t, append(of(write(at)), a...), b, at >= 0 && at < many)
		wantMeet(t, a, append(slices.Clone(b), write(at)), at >= 0 && at < many)
		wantMeet(t, append(slices.Clone(a), write(at)), append(slices.Clone(b), read(at)), true)
	}
}

// P23.1: the traces of two cores of an arena.
func TestMeetOfCores(t *testing.T) {
	a, e := arena.New(16, 3)
	if e != api.OK {
		t.Fatalf("error %d", e)
	}
	a.Store(0, 3, 7)
	a.Load(0, 9)
	a.Load(1, 9)
	a.Cas(1, 5, 1, 2) // does not find 1: a reading
	a.Cas(2, 5, 0, 2)
	wantMeet(t, a.Trace(0), a.Trace(1), false)
	wantMeet(t, a.Trace(0), a.Trace(2), false)
	wantMeet(t, a.Trace(1), a.Trace(2), true)
	wantPlaces(t, a.Trace(0), []int{3, 9}, []int{3})
	wantPlaces(t, a.Trace(1), []int{5, 9}, nil)
	wantPlaces(t, a.Trace(2), []int{5}, []int{5})
	a.Clear(2)
	wantMeet(t, a.Trace(1), a.Trace(2), false)
}
