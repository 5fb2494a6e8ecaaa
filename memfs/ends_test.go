package memfs_test

import (
	"testing"

	"concourse/api"
)

// wantEnd steps all that is under way round and round: it ends within 200 k k steps.
func wantEnd(t *testing.T, p *play, k int) {
	t.Helper()
	steps := 0
	for more := 1; more > 0; {
		more = p.round()
		steps += more
		if steps > 200*k*k {
			t.Fatalf("%d calls, %d steps:\n%s", k, steps, p.told())
		}
	}
}

// P22.4: one to eight calls that wait for one another, stepped round and round, end.
func TestEnds(t *testing.T) {
	r := row(4)
	for round := range 600 {
		k, goal := 1+round%api.MaxCores, r.below(4)
		s := r.someStart(t, api.MaxCores, goal)
		p := newPlay(t, s)
		for core := range k {
			p.begin(r.someGoal(s, core, goal))
		}
		// Some are under way already when the rounds begin.
		for range r.below(2 * k) {
			if core := r.below(k); p.under[core] >= 0 {
				p.step(core)
			}
		}
		wantEnd(t, p, k)
		if round%10 == 0 {
			p.wantLegal()
		}
	}
}

// P22.4: all cores go for all bytes of one file; in each row of cores.
func TestEndsOnOneFile(t *testing.T) {
	for k := 1; k <= api.MaxCores; k++ {
		for reads := range k + 1 {
			for first := range k {
				p := newPlay(t, oneFile(t, api.MaxCores, 256))
				for at := range k {
					c := full(byte('A' + at))
					if at < reads {
						c = read(0, 0, 256)
					} else if at%3 == 2 {
						c = truncate(0, 10*at)
					}
					p.begin(by((first+at)%k, c))
				}
				wantEnd(t, p, k)
			}
		}
	}
}

// P22.4: one that has ended keeps nobody waiting, whatever it answered.
func TestNobodyWaitsForWhatEnded(t *testing.T) {
	s := oneFile(t, 2, 200)
	for _, a := range onFile() {
		for _, b := range onFile() {
			p := newPlay(t, s)
			p.whole(a)
			p.begin(by(1, b))
			wantEnd(t, p, 1)
		}
	}
}
