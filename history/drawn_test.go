package history_test

import (
	"slices"
	"testing"

	"concourse/api"
	"concourse/history"
	"concourse/memfs"
	"concourse/model"
)

// someCall is a call that goes for what others go for too.
func (r *row) someCall(core int) api.Call {
	paths := []string{"/a", "/a", "/b", "/d", "/d/a", "/d/b", "/e", "/e/d", "/", "/a/b", "/.."}
	c := api.Call{Kind: r.below(kinds), Core: core, Fd: r.below(3), Path: oneOf(r, paths...), Path2: oneOf(r, paths...)}
	if r.below(2) == 0 {
		c.Kind = oneOf(r, api.CallCreate, api.CallCreate, api.CallMkdir, api.CallUnlink, api.CallRename, api.CallOpen, api.CallWrite, api.CallRmdir, api.CallClose)
	}
	switch c.Kind {
	case api.CallRead:
		c.Num = oneOf(r, 0, 3, 9, 256, 257)
	case api.CallWrite:
		c.Off, c.Data = r.below(5), oneOf(r, "", "x", "yy", "zzz")
	case api.CallTruncate:
		c.Num = r.below(7)
	}
	return c
}

// someStart is a state of few inodes, in which descriptors are open.
func (r *row) someStart(t *testing.T, cores int) api.State {
	t.Helper()
	s := newState(t, cores)
	if r.below(3) > 0 {
		s = do(t, s, create("/a"), mkdir("/d"), opening("/a"), write(0, 0, "bytes"))
	}
	for range r.below(6) {
		s, _ = model.Do(s, r.someCall(r.below(cores)))
	}
	return s
}

// laidOver does drawn calls one by one, and lays them over one another: each began ahead of where it was done, and ended
// behind. Opens take the least descriptor, or any. It gives the state behind them too.
func (r *row) laidOver(s api.State, count int, anyFd bool) ([]api.Op, api.State) {
	var ops []api.Op
	long := 1 + r.below(60)
	for at := range count {
		core := r.below(len(s.Made))
		c := r.someCall(core)
		if r.below(12) == 0 {
			c.Core = min(len(s.Made), api.MaxCores-1) // often one that is not there
		}
		behind, answer := model.Do(s, c)
		if other := r.below(4); anyFd && c.Kind == api.CallOpen && answer.Code == 0 {
			if chosen, may := model.Allows(s, c, api.Result{Fd: other}); may {
				behind, answer = chosen, api.Result{Fd: other}
			}
		}
		now := 60 + 10*at
		ops = append(ops, answered(c, answer, now-r.below(long), now+1+r.below(long)))
		s = behind
	}
	r.shuffle(ops)
	return ops, s
}

// spoil turns operations: a result, two of them, when they were, whether they ended.
func (r *row) spoil(ops []api.Op, how int) {
	if len(ops) == 0 {
		return
	}
	own, other := &ops[r.below(len(ops))], &ops[r.below(len(ops))]
	switch how {
	case 1:
		if own.Ended != -1 {
			own.Result = oneOf(r, append(turnedResults(own.Result), api.Result{Code: own.Result.Code, Fd: r.below(4), Data: own.Result.Data, Names: own.Result.Names})...)
		}
	case 2:
		if own.Ended != -1 && other.Ended != -1 {
			own.Result, other.Result = other.Result, own.Result
		}
	case 3:
		own.Ended, own.Result = -1, api.Result{}
	case 4:
		own.Began = r.below(120)
		if own.Ended != -1 {
			own.Ended = own.Began + 1 + r.below(60)
		}
	case 5:
		own.Call.Path, own.Call.Kind = other.Call.Path, other.Call.Kind
	}
}

// P25.1, P25.2: drawn histories, as they were and spoiled, against the plain words, at the states behind and such as are
// unlike them in a part.
func TestDrawnHistories(t *testing.T) {
	t.Parallel()
	r := row(25)
	legal, ends := [2]int{}, [2]int{}
	count := func(all *[2]int, is bool) {
		if is {
			all[1]++
		} else {
			all[0]++
		}
	}
	for round := range 1500 {
		s := r.someStart(t, 1+r.below(3))
		ops, last := r.laidOver(s, 1+r.below(5), round%2 == 0)
		wantLegal(t, true, s, ops...)
		wantEnds(t, true, s, last, ops...)
		for range round % 4 {
			r.spoil(ops, 1+r.below(5))
		}
		all := plain(s, ops)
		count(&legal, len(all) > 0)
		wantLegal(t, len(all) > 0, s, ops...)
		candidates := []api.State{s, last}
		for _, behind := range inOrder(all) {
			candidates = append(candidates, behind)
			near := turnedStates(t, behind)
			candidates = append(candidates, oneOf(&r, near...), oneOf(&r, near...))
		}
		for _, other := range candidates {
			_, want := all[show(other)]
			count(&ends, want)
			wantEnds(t, want, s, other, ops...)
		}
	}
	if min(legal[0], legal[1], ends[0], ends[1]) < 300 {
		t.Errorf("%d legal, %d not; %d end so, %d do not", legal[1], legal[0], ends[1], ends[0])
	}
}

// inOrder gives states in the row of their texts.
func inOrder(all map[string]api.State) []api.State {
	var texts []string
	for text := range all {
		texts = append(texts, text)
	}
	slices.Sort(texts)
	var states []api.State
	for _, text := range texts {
		states = append(states, all[text])
	}
	return states
}

// P25.1, P25.2: long histories of drawn calls are legal, also when ends are taken away, and end at the state behind them.
func TestDrawnLongHistories(t *testing.T) {
	t.Parallel()
	r := row(10)
	for round := range 600 {
		s := r.someStart(t, 1+r.below(8))
		ops, last := r.laidOver(s, api.MaxOps, round%2 == 0)
		wantLegal(t, true, s, ops...)
		wantEnds(t, true, s, last, ops...)
		for range round % 2 * r.below(6) {
			r.spoil(ops, 3)
			wantLegal(t, true, s, ops...)
			wantEnds(t, true, s, last, ops...)
		}
	}
}

// stepped steps drawn calls on layer 22 by drawn picks, till so many have begun, and ends all but so many of them.
func (r *row) stepped(t *testing.T, s api.State, count, left int) ([]api.Op, *memfs.Fs) {
	t.Helper()
	f, e := memfs.Load(s)
	if e != api.OK {
		t.Fatalf("Load: error %d", e)
	}
	var ops []api.Op
	under := make(map[int]int)
	for time := 0; len(ops) < count || len(under) > left; time += 2 {
		core := r.below(len(s.Made))
		place, busy := under[core]
		if !busy && len(ops) < count {
			c := r.someCall(core)
			if e := f.Begin(c); e != api.OK {
				t.Fatalf("Begin: error %d", e)
			}
			under[core] = len(ops)
			ops = append(ops, going(c, time))
		}
		if !busy {
			continue
		}
		ended, e := f.Step(core)
		if e != api.OK {
			t.Fatalf("Step: error %d", e)
		}
		if ended {
			ops[place].Result, _ = f.Result(core)
			ops[place].Ended = time + 1
			delete(under, core)
		}
	}
	return ops, f
}

// P25.1, P25.2: what the steps of layer 22 leave is legal, with what is under way, and ends at its State.
func TestSteppedHistories(t *testing.T) {
	t.Parallel()
	r := row(22)
	for range 1500 {
		s := r.someStart(t, 2+r.below(4))
		ops, _ := r.stepped(t, s, 2+r.below(9), r.below(4))
		r.shuffle(ops)
		wantLegal(t, true, s, ops...)
		ops, f := r.stepped(t, s, 2+r.below(9), 0)
		r.shuffle(ops)
		last, e := f.State()
		if e != api.OK {
			t.Fatalf("State: error %d", e)
		}
		wantLegal(t, true, s, ops...)
		wantEnds(t, true, s, last, ops...)
		if got, e := history.Ends(s, ops, do(t, newState(t, len(s.Made)), mkdir("/no"))); got || e != api.OK {
			t.Fatalf("Ends of another state: %t, error %d", got, e)
		}
	}
}
