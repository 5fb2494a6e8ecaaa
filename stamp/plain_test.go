package stamp_test

import (
	"math"
	"math/big"
	"testing"

	"concourse/api"
	"concourse/stamp"
)

// Stamps are taken by value, and answered so.
var (
	_ func(api.Stamp, api.Stamp) bool      = stamp.Less
	_ func(api.Stamp, api.Stamp) api.Stamp = stamp.Next
	_ func(api.Stamp) bool                 = stamp.May
)

// most is 2^40, digit by digit.
const most = 1099511627776

// row is a row of numbers that is the same in each run.
type row uint64

func (r *row) below(n int) int {
	*r = *r*6364136223846793005 + 1442695040888963407
	return int(uint64(*r) >> 20 % uint64(n))
}

// mayBe is a stamp of the row that may be: of few Counts or of all of them.
func (r *row) mayBe() api.Stamp {
	counts := 5
	if r.below(2) == 0 {
		counts = most + 1
	}
	return st(r.below(counts), r.below(api.MaxCores))
}

func st(count, core int) api.Stamp {
	return api.Stamp{Count: count, Core: core}
}

// goodCounts are Counts that may be, the edges among them.
func goodCounts() []int {
	return []int{0, 1, 2, 3, 7, 8, 9, 255, 256, 65536, math.MaxInt32, math.MaxInt32 + 1, math.MaxUint32, math.MaxUint32 + 1, most / 2, most - 2, most - 1, most}
}

// badCounts are Counts that may not be, some of them one with a good one in their low bits.
func badCounts() []int {
	return []int{math.MinInt, math.MinInt + 1, math.MinInt + most, -2 * most, -most - 1, -most, -math.MaxUint32 - 1, -2, -1, most + 1, most + 2, 2 * most, 1 << 62, math.MaxInt - 1, math.MaxInt}
}

// badCores are Cores that may not be, some of them one with a good one in their low bits.
func badCores() []int {
	return []int{math.MinInt, math.MinInt + 1, -most, -math.MaxUint32 - 1, -256, -9, -8, -7, -2, -1, api.MaxCores, api.MaxCores + 1, 2 * api.MaxCores, 256, math.MaxUint32 + 1, most, math.MaxInt - 1, math.MaxInt}
}

// goodStamps are all stamps of good Counts and of the Cores that there are.
func goodStamps() []api.Stamp {
	var all []api.Stamp
	for _, count := range goodCounts() {
		for core := range api.MaxCores {
			all = append(all, st(count, core))
		}
	}
	return all
}

// badStamps are stamps that may not be, for one reason or for both.
func badStamps() []api.Stamp {
	var all []api.Stamp
	for _, count := range badCounts() {
		for core := range api.MaxCores {
			all = append(all, st(count, core))
		}
		for _, core := range badCores() {
			all = append(all, st(count, core))
		}
	}
	for _, count := range goodCounts() {
		for _, core := range badCores() {
			all = append(all, st(count, core))
		}
	}
	return all
}

// height is a stamp's place in the order as one number, which no step of a Core
// can bring past a step of a Count.
func height(s api.Stamp) *big.Int {
	place := new(big.Int).Lsh(big.NewInt(int64(s.Count)), 70)
	return place.Add(place, big.NewInt(int64(s.Core)))
}

// wantLess fails unless Less answers this.
func wantLess(t *testing.T, a, b api.Stamp, want bool) {
	t.Helper()
	if got := stamp.Less(a, b); got != want {
		t.Errorf("Less(%v, %v): %t, want %t", a, b, got, want)
	}
}

// wantAhead fails unless a is less than b, and b not less than a.
func wantAhead(t *testing.T, a, b api.Stamp) {
	t.Helper()
	wantLess(t, a, b, true)
	wantLess(t, b, a, false)
}

// wantNext fails unless Next answers this.
func wantNext(t *testing.T, own, seen, want api.Stamp) {
	t.Helper()
	if got := stamp.Next(own, seen); got != want {
		t.Errorf("Next(%v, %v): %v, want %v", own, seen, got, want)
	}
}

// wantMay fails unless May answers this.
func wantMay(t *testing.T, s api.Stamp, want bool) {
	t.Helper()
	if got := stamp.May(s); got != want {
		t.Errorf("May(%v): %t, want %t", s, got, want)
	}
}
