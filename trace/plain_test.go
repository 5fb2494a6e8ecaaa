package trace_test

import (
	"math"
	"slices"
	"testing"

	"concourse/api"
	"concourse/trace"
)

// The signatures that the chapter names.
var (
	_ func([]api.Access, []api.Access) bool = trace.Meet
	_ func([]api.Access) []int              = trace.Words
	_ func([]api.Access) []int              = trace.Writes
)

// row is a row of numbers that is the same in each run.
type row uint64

func (r *row) below(n int) int {
	*r = *r*6364136223846793005 + 1442695040888963407
	return int(uint64(*r) >> 20 % uint64(n))
}

// trace is so many accesses to the places, of which one in so many writes (0: none does).
func (r *row) trace(length int, places []int, oneIn int) []api.Access {
	var all []api.Access
	for range length {
		write := oneIn > 0 && r.below(oneIn) == 0
		all = append(all, api.Access{At: places[r.below(len(places))], Write: write})
	}
	return all
}

func read(at int) api.Access {
	return api.Access{At: at}
}

func write(at int) api.Access {
	return api.Access{At: at, Write: true}
}

func of(all ...api.Access) []api.Access {
	return all
}

// upTo are the places from 0 up to n - 1.
func upTo(n int) []int {
	all := make([]int, n)
	for i := range all {
		all[i] = i
	}
	return all
}

// edges are places at the ends of what an int may be and around 0, some of them one in their low bits.
func edges() []int {
	return []int{
		math.MinInt, math.MinInt + 1, math.MinInt32 - 1, math.MinInt32, -math.MaxUint16 - 1, -256, -2, -1,
		0, 1, 2, 255, 256, math.MaxUint16 + 1, math.MaxInt32, math.MaxInt32 + 1, math.MaxUint32, math.MaxUint32 + 1, math.MaxInt - 1, math.MaxInt,
	}
}

// allTraces are all traces of up to so many accesses to the places.
func allTraces(most int, places ...int) [][]api.Access {
	all := [][]api.Access{nil}
	from := 0
	for range most {
		upto := len(all)
		for _, ahead := range all[from:upto] {
			for _, at := range places {
				all = append(all, append(slices.Clone(ahead), read(at)), append(slices.Clone(ahead), write(at)))
			}
		}
		from = upto
	}
	return all
}

// plainMeet is the chapter's word: each access of one beside each of the other.
func plainMeet(a, b []api.Access) bool {
	for _, x := range a {
		for _, y := range b {
			if x.At == y.At && (x.Write || y.Write) {
				return true
			}
		}
	}
	return false
}

// plainPlaces is the chapter's word: the places of all accesses, or of those that write.
func plainPlaces(a []api.Access, writesAlone bool) []int {
	has := map[int]bool{}
	for _, x := range a {
		if x.Write || !writesAlone {
			has[x.At] = true
		}
	}
	var all []int
	for at := range has {
		all = append(all, at)
	}
	slices.Sort(all)
	return all
}

// short gives a list's beginning, for telling it.
func short[T any](all []T) []T {
	return all[:min(len(all), 20)]
}

// wantMeet fails unless Meet answers this, either way round.
func wantMeet(t *testing.T, a, b []api.Access, want bool) {
	t.Helper()
	if got := trace.Meet(a, b); got != want {
		t.Errorf("Meet of %v (%d) and %v (%d): %t", short(a), len(a), short(b), len(b), got)
	}
	if got := trace.Meet(b, a); got != want {
		t.Errorf("Meet of %v (%d) and %v (%d): %t", short(b), len(b), short(a), len(a), got)
	}
}

// wantPlaces fails unless Words and Writes answer these; nil and an empty list are one.
func wantPlaces(t *testing.T, a []api.Access, words, writes []int) {
	t.Helper()
	if got := trace.Words(a); !slices.Equal(got, words) {
		t.Errorf("Words of %v (%d): %v (%d), want %v (%d)", short(a), len(a), short(got), len(got), short(words), len(words))
	}
	if got := trace.Writes(a); !slices.Equal(got, writes) {
		t.Errorf("Writes of %v (%d): %v (%d), want %v (%d)", short(a), len(a), short(got), len(got), short(writes), len(writes))
	}
}

// wantPlain fails unless Words and Writes answer what the plain words of the chapter do.
func wantPlain(t *testing.T, a []api.Access) {
	t.Helper()
	wantPlaces(t, a, plainPlaces(a, false), plainPlaces(a, true))
}
