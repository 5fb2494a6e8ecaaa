package trace_test

import (
	"math"
	"slices"
	"testing"

	"concourse/api"
)

// P23.1: rising, each once; Writes has those that are written alone.
func TestPlaces(t *testing.T) {
	wantPlaces(t, of(read(3), write(1), read(3), read(1)), []int{1, 3}, []int{1})
	wantPlaces(t, of(write(7)), []int{7}, []int{7})
	wantPlaces(t, of(read(7)), []int{7}, nil)
	wantPlaces(t, of(write(5), write(4), write(3), write(2)), []int{2, 3, 4, 5}, []int{2, 3, 4, 5})
	wantPlaces(t, of(write(2), read(3), write(4), read(5)), []int{2, 3, 4, 5}, []int{2, 4})
	wantPlaces(t, of(write(5), read(4), write(3), read(2)), []int{2, 3, 4, 5}, []int{3, 5})
	wantPlaces(t, of(read(10), write(9), read(100), write(11), read(1)), []int{1, 9, 10, 11, 100}, []int{9, 11})
}

// P23.1: an empty trace and nil have none.
func TestPlacesOfNothing(t *testing.T) {
	for _, empty := range [][]api.Access{nil, {}, make([]api.Access, 0, 8), of(write(3))[:0]} {
		wantPlaces(t, empty, nil, nil)
	}
}

// P23.1: a trace that writes nothing has words and no writes.
func TestPlacesOfReadings(t *testing.T) {
	r := row(4)
	for range 200 {
		a := r.trace(1+r.below(60), edges(), 0)
		wantPlaces(t, a, plainPlaces(a, false), nil)
	}
}

// P23.1: a place is there once, however often and in which row it is read and written.
func TestOnePlaceManyTimes(t *testing.T) {
	for _, at := range edges() {
		wantPlaces(t, of(read(at), write(at)), []int{at}, []int{at})
		wantPlaces(t, of(write(at), read(at)), []int{at}, []int{at})
		wantPlaces(t, of(read(at), read(at), read(at), write(at), read(at)), []int{at}, []int{at})
		wantPlaces(t, of(write(at), write(at), write(at)), []int{at}, []int{at})
		wantPlaces(t, of(read(at), read(at)), []int{at}, nil)
		wantPlaces(t, slices.Repeat(of(read(at), write(at)), 1000), []int{at}, []int{at})
	}
	wantPlaces(t, of(read(3), read(8), write(3), read(1), read(8)), []int{1, 3, 8}, []int{3})
	wantPlaces(t, of(write(3), read(8), read(3), write(1), read(1)), []int{1, 3, 8}, []int{1, 3})
	wantPlaces(t, slices.Repeat(of(read(3), write(8), read(3), read(1)), 1000), []int{1, 3, 8}, []int{8})
}

// P23.1: places below 0, of 0 and as great as an int may be stand in their row.
func TestPlacesAtTheEdges(t *testing.T) {
	wantPlaces(t, of(write(math.MaxInt), read(0), write(math.MinInt), read(-1)), []int{math.MinInt, -1, 0, math.MaxInt}, []int{math.MinInt, math.MaxInt})
	var rising, mixed []api.Access
	var odd []int
	for i, at := range edges() {
		rising = append(rising, api.Access{At: at, Write: i%2 == 1})
		if i%2 == 1 {
			odd = append(odd, at)
		}
	}
	falling := slices.Clone(rising)
	slices.Reverse(falling)
	for i := range rising {
		mixed = append(mixed, rising[i*7%len(rising)])
	}
	for _, a := range [][]api.Access{rising, falling, mixed, slices.Concat(rising, falling, mixed)} {
		wantPlaces(t, a, edges(), odd)
	}
}

// P23.1: all traces of up to five accesses to three places, and of up to seven to two.
func TestPlacesOfAllShortTraces(t *testing.T) {
	for _, a := range slices.Concat(allTraces(5, -1, 0, 1), allTraces(7, 4, 5)) {
		wantPlain(t, a)
	}
}

// P23.1: four to eight unlike places, in all rows in which they may come.
func TestPlacesInAllRows(t *testing.T) {
	for n := 4; n <= 8; n++ {
		perms(upTo(n), 0, func(places []int) {
			var a []api.Access
			for _, at := range places {
				a = append(a, api.Access{At: at, Write: at%3 == 0})
			}
			wantPlain(t, a)
		})
	}
}

// perms tells all rows of the places; those ahead of from stay.
func perms(places []int, from int, tell func([]int)) {
	if from == len(places) {
		tell(places)
		return
	}
	for i := from; i < len(places); i++ {
		places[from], places[i] = places[i], places[from]
		perms(places, from+1, tell)
		places[from], places[i] = places[i], places[from]
	}
}

// P23.1: drawn traces, of few places and of many.
func TestPlacesOfDrawnTraces(t *testing.T) {
	r := row(5)
	for _, places := range [][]int{upTo(2), upTo(5), upTo(40), upTo(5000), edges()} {
		for range 1500 {
			wantPlain(t, r.trace(r.below(120), places, r.below(6)))
		}
	}
}

// shape is a way in which places come: which one is i-th of n.
type shape struct {
	what  string
	place func(i, n int) int
}

func shapes() []shape {
	r := row(6)
	return []shape{
		{"rising", func(i, n int) int { return i }},
		{"falling", func(i, n int) int { return n - i }},
		{"rising by steps", func(i, n int) int { return i/3*1000 - n }},
		{"falling, each twice", func(i, n int) int { return -(i / 2) }},
		{"up and down", func(i, n int) int { return min(i, n-i) }},
		{"down and up", func(i, n int) int { return max(i, n-i) }},
		{"outward", func(i, n int) int { return i * (1 - i%2*2) }},
		{"inward", func(i, n int) int { return (n - i) * (1 - i%2*2) }},
		{"a saw", func(i, n int) int { return i % 97 }},
		{"a falling saw", func(i, n int) int { return i/97*97 - i%97 }},
		{"a saw that rises", func(i, n int) int { return i%97*1000 + i/97 }},
		{"two places", func(i, n int) int { return i % 2 }},
		{"few places", func(i, n int) int { return r.below(9) }},
		{"many places", func(i, n int) int { return r.below(n+1) - n/2 }},
		{"any place", func(i, n int) int { return int(uint(r.below(1<<32))<<32 | uint(r.below(1<<32))) }},
	}
}

// P23.1: long traces, in whatever row their places come.
func TestPlacesOfLongTraces(t *testing.T) {
	r := row(7)
	for _, s := range shapes() {
		for _, n := range []int{31, 32, 33, 1000, 1023, 1025, api.MaxArena} {
			for _, oneIn := range []int{1, 3, n} {
				var a []api.Access
				for i := range n {
					a = append(a, api.Access{At: s.place(i, n), Write: r.below(oneIn) == 0})
				}
				wantPlain(t, a)
			}
		}
		if t.Failed() {
			t.Fatalf("of places that come thus: %s", s.what)
		}
	}
}

// A trace of a million places that fall, or come in pairs of rising and falling ones, costs about what one that rises costs.
func TestLongTracesEnd(t *testing.T) {
	const many = 1 << 20
	var falling, outward, rising []api.Access
	for i := range many {
		falling = append(falling, write(many-i))
		outward = append(outward, write(i*(1-i%2*2)))
		rising = append(rising, read(i+1))
	}
	all := upTo(many + 1)[1:]
	wantPlaces(t, falling, all, all)
	wantPlaces(t, rising, all, nil)
	wantPlain(t, outward)
	wantMeet(t, falling, rising, true)
	wantMeet(t, rising, rising, false)
}
