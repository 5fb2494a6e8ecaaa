package arena_test

import (
	"slices"
	"testing"

	"concourse/api"
	"concourse/arena"
)

// plain is the chapter said once more, in the plainest way.
type plain struct {
	words map[int]int
	rows  map[int][]api.Access
}

func (p *plain) note(core, at int, write bool) {
	p.rows[core] = append(p.rows[core], api.Access{At: at, Write: write})
}

// row is a row of numbers that is the same in each run.
type row uint64

func (r *row) below(n int) int {
	*r = *r*6364136223846793005 + 1442695040888963407
	return int(uint64(*r) >> 33 % uint64(n))
}

// oneCall does one call, picked by r, on both, and tells whether they answer the same.
func oneCall(r *row, a *arena.Arena, p *plain) bool {
	core, at, v, old := r.below(a.Cores()), r.below(a.Words()), r.below(5)-2, r.below(3)-1
	was := p.words[at]
	switch r.below(20) {
	case 0:
		delete(p.rows, core)
		return a.Clear(core) == api.OK
	case 1, 2, 3, 4:
		p.note(core, at, true)
		p.words[at] = v
		return a.Store(core, at, v) == api.OK
	case 5, 6, 7, 8:
		p.note(core, at, true)
		p.words[at] = was + v
		n, e := a.Add(core, at, v)
		return n == was+v && e == api.OK
	case 9, 10, 11, 12, 13:
		p.note(core, at, was == old)
		if was == old {
			p.words[at] = v
		}
		is, e := a.Cas(core, at, old, v)
		return is == (was == old) && e == api.OK
	default:
		p.note(core, at, false)
		got, e := a.Load(core, at)
		return got == was && e == api.OK
	}
}

// P2.1: long rows of calls answer what the plain arena answers.
func TestAgainstPlain(t *testing.T) {
	for seed := range 40 {
		r := row(seed)
		a := makeArena(t, []int{1, 2, 7, 300}[seed%4], 1+seed%api.MaxCores)
		p := &plain{words: map[int]int{}, rows: map[int][]api.Access{}}
		for step := range 1000 {
			if !oneCall(&r, a, p) {
				t.Fatalf("row %d, step %d: another answer", seed, step)
			}
			for core := range a.Cores() {
				if got := a.Trace(core); !slices.Equal(got, p.rows[core]) {
					t.Fatalf("row %d, step %d, core %d: %v, want %v", seed, step, core, got, p.rows[core])
				}
			}
		}
	}
}

// A long trace: each access costs the same, however many are noted.
func TestLongTraceEnds(t *testing.T) {
	const many = 1 << 20
	a := makeArena(t, api.MaxArena, api.MaxCores)
	for i := range many {
		a.Add(7, i%api.MaxArena, 1)
	}
	got := a.Trace(7)
	if len(got) != many || got[many-1] != write(api.MaxArena-1) {
		t.Fatalf("%d accesses", len(got))
	}
	wantOK(t, a.Clear(7))
	wantTrace(t, a, 7)
	wantWord(t, a, 0, many/api.MaxArena)
}
