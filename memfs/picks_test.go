package memfs_test

import (
	"strconv"
	"strings"
	"testing"

	"concourse/api"
)

// picks is a row of picks that is played, of all that there are.
type picks struct {
	taken  []int // which of those that were ready was picked, step by step
	ready  []int // of how many
	played int
}

// pick takes one of so many that are ready.
func (x *picks) pick(ready int) int {
	if x.played == len(x.taken) {
		x.taken = append(x.taken, 0)
	}
	x.ready = append(x.ready[:x.played], ready)
	x.played++
	return x.taken[x.played-1]
}

// next goes to the next row of picks, if there is one.
func (x *picks) next() bool {
	for at := x.played - 1; at >= 0; at-- {
		if x.taken[at]+1 < x.ready[at] {
			x.taken = x.taken[:at+1]
			x.taken[at]++
			x.played = 0
			return true
		}
	}
	return false
}

// readyOf gives the cores that have a call under way or one to begin, rising.
func (p *play) readyOf(scripts [][]api.Call) []int {
	var cores []int
	for core, script := range scripts {
		if p.under[core] >= 0 || len(script) > 0 {
			cores = append(cores, core)
		}
	}
	return cores
}

// relation is what answers, and which call ended ahead of which, as a text.
func (p *play) relation() string {
	var text []byte
	for _, o := range p.ops {
		r := o.Result
		text = append(text, byte(o.Call.Core), byte(r.Code), byte(r.Fd), byte(r.Num), byte(r.Num>>8))
		text = append(strconv.AppendQuote(text, r.Data), strings.Join(r.Names, "/")...)
		for at, other := range p.ops {
			if other.Ended >= 0 && other.Ended <= o.Began {
				text = append(text, ' ', byte(at))
			}
		}
		text = append(text, '\n')
	}
	s, _ := p.f.State()
	return string(text) + show(s)
}

// allPicks plays calls, a row of them for each core, by each row of picks that there is,
// and looks at each play when it has ended. A core that is picked begins its next call, if
// it has none under way, and does a step. Behind so many picks it goes round and round.
func allPicks(t *testing.T, s api.State, most int, scripts [][]api.Call, look func(p *play)) {
	t.Helper()
	x := &picks{}
	for more := true; more; more = x.next() {
		p := newPlay(t, s)
		own := append([][]api.Call(nil), scripts...)
		for at := 0; ; at++ {
			cores := p.readyOf(own)
			if len(cores) == 0 {
				break
			}
			if at > most+200*len(scripts) {
				t.Fatalf("no end:\n%s", p.told())
			}
			which := at % len(cores)
			if at < most {
				which = x.pick(len(cores))
			}
			core := cores[which]
			if p.under[core] < 0 {
				p.begin(by(core, own[core][0]))
				own[core] = own[core][1:]
			}
			p.step(core)
		}
		look(p)
	}
}

// wantAllLegal plays calls by all picks, and each play must be as if one by one. It tells
// how many unlike ends there were.
func wantAllLegal(t *testing.T, s api.State, most int, scripts ...[]api.Call) int {
	t.Helper()
	seen := map[string]struct{}{}
	allPicks(t, s, most, scripts, func(p *play) {
		key := p.relation()
		if _, is := seen[key]; !is {
			seen[key] = struct{}{}
			p.wantLegal()
		}
	})
	return len(seen)
}

// calls is a core's row of calls.
func calls(all ...api.Call) []api.Call {
	return all
}
