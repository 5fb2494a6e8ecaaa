package stamp_test

import (
	"math"
	"math/big"
	"slices"
	"testing"

	"concourse/api"
	"concourse/stamp"
)

// P16.1: by Count, whatever the Cores.
func TestLessByCount(t *testing.T) {
	wantAhead(t, st(1, 2), st(2, 2))
	wantAhead(t, st(1, 0), st(2, 7))
	wantAhead(t, st(1, 7), st(2, 0))
	wantAhead(t, st(0, 7), st(1, 0))
	wantAhead(t, st(9, 1), st(10, 0))
	wantAhead(t, st(0, 7), st(most, 0))
	wantAhead(t, st(most-1, 7), st(most, 0))
	wantAhead(t, st(math.MaxInt32, 5), st(math.MaxInt32+1, 4))
	wantAhead(t, st(math.MaxUint32, 5), st(math.MaxUint32+1, 4))
}

// P16.1: by Core, where the Counts are one.
func TestLessByCore(t *testing.T) {
	for _, count := range slices.Concat(goodCounts(), badCounts()) {
		for one := range api.MaxCores {
			for two := range api.MaxCores {
				wantLess(t, st(count, one), st(count, two), one < two)
			}
		}
	}
}

// P16.1: no stamp is less than itself.
func TestNotLessThanItself(t *testing.T) {
	for _, s := range slices.Concat(goodStamps(), badStamps()) {
		wantLess(t, s, s, false)
	}
}

// P16.1: of two unlike stamps that may be, just one is less.
func TestJustOneIsLess(t *testing.T) {
	all := goodStamps()
	for i, one := range all {
		for _, two := range all[i+1:] {
			if stamp.Less(one, two) == stamp.Less(two, one) {
				t.Errorf("Less of %v and %v, either way: %t", one, two, stamp.Less(one, two))
			}
		}
	}
}

// P16.1: goodStamps stand in the order, so each is less than those behind it alone.
func TestGoodStampsStandInOrder(t *testing.T) {
	all := goodStamps()
	for i, one := range all {
		for j, two := range all {
			wantLess(t, one, two, i < j)
		}
	}
}

// P16.1: Less is by Count and Core alone, of stamps that may not be too.
func TestLessOfStampsThatMayNotBe(t *testing.T) {
	wantAhead(t, st(-5, 9), st(-5, 10))
	wantAhead(t, st(-5, -10), st(-5, -9))
	wantAhead(t, st(-1, 7), st(0, 0))
	wantAhead(t, st(most, 7), st(most+1, 0))
	wantAhead(t, st(3, -1), st(3, 0))
	wantAhead(t, st(3, 7), st(3, 8))
	wantAhead(t, st(3, math.MaxInt), st(4, math.MinInt))
	wantAhead(t, st(3, math.MinInt), st(3, math.MaxInt))
	wantAhead(t, st(math.MinInt, 0), st(math.MaxInt, 0))
	wantAhead(t, st(math.MinInt, math.MaxInt), st(math.MaxInt, math.MinInt))
	wantAhead(t, st(math.MinInt, 7), st(math.MinInt+1, 0))
	wantAhead(t, st(math.MaxInt-1, 7), st(math.MaxInt, 0))
}

// P16.1: all stamps against all, by their heights.
func TestLessByHeight(t *testing.T) {
	all := slices.Concat(goodStamps(), badStamps())
	heights := make([]*big.Int, len(all))
	for i, s := range all {
		heights[i] = height(s)
	}
	for i, one := range all {
		for j, two := range all {
			wantLess(t, one, two, heights[i].Cmp(heights[j]) < 0)
		}
	}
}

// P16.1: stamps of any row, put in order by Less, rise by Count and then Core.
func TestSortedStampsRise(t *testing.T) {
	g := row(1)
	for range 50 {
		all := make([]api.Stamp, g.below(200))
		for i := range all {
			all[i] = g.mayBe()
		}
		slices.SortFunc(all, func(a, b api.Stamp) int {
			switch {
			case stamp.Less(a, b):
				return -1
			case stamp.Less(b, a):
				return 1
			}
			return 0
		})
		for i := 1; i < len(all); i++ {
			if height(all[i-1]).Cmp(height(all[i])) > 0 {
				t.Fatalf("%v stands ahead of %v", all[i-1], all[i])
			}
		}
	}
}
