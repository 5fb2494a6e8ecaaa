package memfs_test

import (
	"testing"

	"concourse/api"
)

// someGoal is a call that goes for what others of its kind go for too: the bytes of /a,
// names of one directory, or anything.
func (r *row) someGoal(s api.State, core, goal int) api.Call {
	c := r.someCall(s, core)
	switch goal {
	case 0:
		c.Fd, c.Path = 0, "/a"
		c.Kind = oneOf(r, api.CallRead, api.CallRead, api.CallWrite, api.CallWrite, api.CallTruncate, api.CallSize, api.CallStat)
		c.Off, c.Num = r.below(120), 80+r.below(177)
		c.Data = fill(byte('a'+r.below(26)), oneOf(r, 1+r.below(10), 60+r.below(60), 136))
		if c.Kind == api.CallTruncate {
			c.Num = r.someSize()
		}
	case 1:
		c.Path, c.Path2 = "/"+oneOf(r, "a", "i", "d"), "/"+oneOf(r, "a", "i", "d", "d/a", "i/d")
	case 2:
		c.Path, c.Path2 = oneOf(r, "/d", "/d/e", "/d/e/a", "/i", "/i/a", "/i/e"), oneOf(r, "/d/e", "/i/e", "/d/i", "/i", "/i/d")
		if r.below(3) == 0 {
			c.Kind = oneOf(r, api.CallRename, api.CallRename, api.CallRmdir, api.CallMkdir, api.CallList)
		}
	}
	return c
}

// someStart is a state in which drawn calls of a goal meet.
func (r *row) someStart(t *testing.T, cores, goal int) api.State {
	t.Helper()
	switch goal {
	case 0:
		return oneFile(t, cores, oneOf(r, 0, 100, 200, 256))
	case 1:
		return newState(t, cores, create("/a"), mkdir("/d"), opening("/a"))
	case 2:
		return newState(t, cores, mkdir("/d"), mkdir("/d/e"), create("/d/e/a"), mkdir("/i"))
	}
	return r.someState(t, cores, r.below(60))
}

// drawnPlay plays calls of several cores by drawn picks; at its end so many go on no more,
// though they are under way.
func (r *row) drawnPlay(t *testing.T, cores, goal, count, left int) *play {
	t.Helper()
	s := r.someStart(t, cores, goal)
	p := newPlay(t, s)
	for picks := 0; len(p.ops) < count || len(p.busy()) > left; picks++ {
		if picks > 5000 {
			t.Fatalf("no end:\n%s", p.told())
		}
		core := r.below(cores)
		if p.under[core] >= 0 {
			p.step(core)
		} else if len(p.ops) < count {
			p.begin(r.someGoal(s, core, goal))
		}
		if len(p.busy()) == 0 && len(p.ops) < count && r.below(2) == 0 {
			p.wantLegal() // that State is told between changes nothing of what follows
		}
	}
	return p
}

// P22.2: calls of two to eight cores by drawn picks: what ended, with some of what did not, is as if one by one.
func TestDrawnHistories(t *testing.T) {
	t.Parallel()
	r := row(2)
	unended := 0
	for round := range 6000 {
		cores, left := 2+r.below(7), r.below(4)
		if round%4 == 0 {
			cores = 3 // few, with several calls each
		}
		p := r.drawnPlay(t, cores, round%4, 9, min(left, cores))
		unended += len(p.busy())
		p.wantLegal()
	}
	if unended < 2000 {
		t.Errorf("%d calls were left under way", unended)
	}
}

// P22.2: what is left under way at any place in its steps stays as if it had ended or never begun.
func TestLeftUnderWay(t *testing.T) {
	for _, a := range []api.Call{full('F'), write(0, 100, fill('M', 60)), truncate(0, 0), truncate(0, 90), read(0, 0, 256)} {
		for steps := range 4 {
			s := oneFile(t, 2, 200)
			for _, b := range []api.Call{size(0), stat("/a"), read(0, 0, 20), read(0, 180, 20), write(0, 180, "high"), write(0, 250, "!"), truncate(0, 210)} {
				p := newPlay(t, s)
				p.begin(a)
				for at := 0; at < steps && p.under[0] >= 0; at++ {
					p.step(0)
				}
				p.begin(by(1, b))
				for at := 0; at < 9 && p.under[1] >= 0; at++ {
					p.step(1)
				}
				p.wantLegal()
				for len(p.busy()) > 0 {
					p.round()
				}
				p.wantLegal()
			}
		}
	}
}

// P22.1, P22.2: State tells the same again, while nobody steps, and is refused while a call of any core is under way.
func TestStateBetween(t *testing.T) {
	r := row(6)
	s := r.someState(t, 4, 50)
	p := newPlay(t, s)
	for core := range 4 {
		p.begin(by(core, oneOf(&r, read(0, 0, 9), list("/"), create("/n"), api.Call{Kind: api.CallSync})))
	}
	for core := range 4 {
		for ended := false; !ended; {
			if s, e := p.f.State(); e != api.ErrMemfsBusy || len(s.Inodes) != 0 {
				t.Errorf("core %d is under way: error %d", core, e)
			}
			ended = p.step(core)
		}
	}
	p.wantLegal()
}
