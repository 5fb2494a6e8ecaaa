package stamp_test

import (
	"testing"

	"concourse/api"
	"concourse/stamp"
)

// P16.1: the greater Count and 1, whichever stamp has it; the Core is own's.
func TestNext(t *testing.T) {
	wantNext(t, st(9, 1), st(3, 2), st(10, 1))
	wantNext(t, st(3, 1), st(9, 2), st(10, 1))
	wantNext(t, st(9, 2), st(3, 1), st(10, 2))
	wantNext(t, st(3, 2), st(9, 1), st(10, 2))
	wantNext(t, st(9, 1), st(8, 1), st(10, 1))
	wantNext(t, st(8, 1), st(9, 1), st(10, 1))
	wantNext(t, st(100, 7), st(0, 0), st(101, 7))
	wantNext(t, st(0, 0), st(100, 7), st(101, 0))
}

// P16.1: Counts that are one, of unlike Cores and of one.
func TestNextOfLikeCounts(t *testing.T) {
	wantNext(t, st(5, 3), st(5, 6), st(6, 3))
	wantNext(t, st(5, 6), st(5, 3), st(6, 6))
	wantNext(t, st(5, 3), st(5, 3), st(6, 3))
	wantNext(t, st(1, 7), st(1, 0), st(2, 7))
}

// P16.1: the first stamps of cores, which have seen nothing.
func TestNextOfNothing(t *testing.T) {
	for own := range api.MaxCores {
		for seen := range api.MaxCores {
			wantNext(t, st(0, own), st(0, seen), st(1, own))
		}
	}
	wantNext(t, st(0, 4), st(1, 0), st(2, 4))
	wantNext(t, st(1, 4), st(0, 0), st(2, 4))
}

// P16.1: the last Counts: 2^40 - 1 goes to 2^40, and 2^40 to 2^40 + 1, which may not be.
func TestNextAtTheLastCounts(t *testing.T) {
	wantNext(t, st(most-2, 1), st(most-2, 2), st(most-1, 1))
	for _, less := range []int{0, 1, 5, most - 2, most - 1} {
		wantNext(t, st(most-1, 1), st(less, 2), st(most, 1))
		wantNext(t, st(less, 7), st(most-1, 0), st(most, 7))
	}
	for _, less := range []int{0, 1, 5, most - 1, most} {
		wantNext(t, st(most, 1), st(less, 2), st(most+1, 1))
		wantNext(t, st(less, 7), st(most, 0), st(most+1, 7))
	}
	wantMay(t, stamp.Next(st(most-1, 0), st(0, 0)), true)
	wantMay(t, stamp.Next(st(most, 0), st(0, 0)), false)
}

// P16.1: a stamp behind the last one is given again.
func TestNextStaysBehindTheLast(t *testing.T) {
	own := stamp.Next(st(0, 3), st(most, 5))
	for range 3 {
		wantNext(t, own, st(most, 5), st(most+1, 3))
		own = stamp.Next(own, st(most, 5))
	}
}

// P16.1: every two good stamps.
func TestNextOfAllGoodStamps(t *testing.T) {
	for _, own := range goodStamps() {
		for _, seen := range goodStamps() {
			count := own.Count + 1
			if seen.Count >= own.Count {
				count = seen.Count + 1
			}
			wantNext(t, own, seen, st(count, own.Core))
		}
	}
}

// P16.1: own may not be: own, whatever was seen.
func TestNextOfOwnThatMayNotBe(t *testing.T) {
	for _, own := range badStamps() {
		for _, seen := range goodStamps() {
			wantNext(t, own, seen, own)
		}
	}
}

// P16.1: what was seen may not be: own, as it is.
func TestNextOfSeenThatMayNotBe(t *testing.T) {
	for _, seen := range badStamps() {
		for _, own := range goodStamps() {
			wantNext(t, own, seen, own)
		}
	}
}

// P16.1: neither may be: own, not what was seen.
func TestNextOfTwoThatMayNotBe(t *testing.T) {
	for _, own := range badStamps() {
		for _, seen := range badStamps() {
			wantNext(t, own, seen, own)
		}
	}
}

// P16.1: what comes next is above both, by Less, and the least Count above both.
func TestNextIsAboveBoth(t *testing.T) {
	g := row(2)
	for range 20000 {
		own, seen := g.mayBe(), g.mayBe()
		next := stamp.Next(own, seen)
		wantAhead(t, own, next)
		wantAhead(t, seen, next)
		under := st(next.Count-1, own.Core)
		if stamp.Less(own, under) && under.Count > seen.Count {
			t.Fatalf("Next(%v, %v): %v, though %v is above both Counts", own, seen, next, under)
		}
	}
}

// P16.1: cores that take stamps, each having seen some core's last one, take no
// stamp twice, and each of them rises.
func TestCoresTakeStamps(t *testing.T) {
	for seed := range 30 {
		g := row(seed)
		var last [api.MaxCores]api.Stamp
		for core := range last {
			last[core] = st(0, core)
		}
		taken := map[api.Stamp]int{}
		for range 500 {
			core, other := g.below(api.MaxCores), g.below(api.MaxCores)
			next := stamp.Next(last[core], last[other])
			wantAhead(t, last[core], next)
			wantAhead(t, last[other], next)
			wantMay(t, next, true)
			taken[next]++
			if taken[next] > 1 || next.Core != core {
				t.Fatalf("core %d took %v, time %d", core, next, taken[next])
			}
			last[core] = next
		}
	}
}
