package stamp_test

import (
	"testing"

	"concourse/api"
)

// P16.1: stamps as calls have them.
func TestOrdinaryStampsMayBe(t *testing.T) {
	for _, s := range []api.Stamp{st(5, 0), st(5, 3), st(12, 7), st(1000, 1), st(123456789, 6), st(most-1000, 2)} {
		wantMay(t, s, true)
	}
}

// P16.1: the least and the greatest Counts and Cores, each with each.
func TestEdgesThatMayBe(t *testing.T) {
	for _, count := range []int{0, 1, most - 1, most} {
		for _, core := range []int{0, 1, api.MaxCores - 2, api.MaxCores - 1} {
			wantMay(t, st(count, core), true)
		}
	}
	for _, s := range goodStamps() {
		wantMay(t, s, true)
	}
}

// P16.1: a Count alone that may not be, with every Core.
func TestCountsThatMayNotBe(t *testing.T) {
	for _, count := range badCounts() {
		for core := range api.MaxCores {
			wantMay(t, st(count, core), false)
		}
	}
}

// P16.1: a Core alone that may not be, with each good Count.
func TestCoresThatMayNotBe(t *testing.T) {
	for _, core := range badCores() {
		for _, count := range goodCounts() {
			wantMay(t, st(count, core), false)
		}
	}
}

// P16.1: both may not be; one wrong does not mend the other.
func TestNeitherMayBe(t *testing.T) {
	for _, count := range badCounts() {
		for _, core := range badCores() {
			wantMay(t, st(count, core), false)
		}
	}
}
