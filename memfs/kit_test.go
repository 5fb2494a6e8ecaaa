package memfs_test

import (
	"fmt"
	"slices"
	"strings"
	"testing"

	"concourse/api"
	"concourse/memfs"
	"concourse/model"
	"concourse/shape"
)

// show is a state that may be as a text: two of them have one text just if they are one.
func show(s api.State) string {
	text, e := shape.Of(s)
	if e != api.OK {
		return fmt.Sprintf("a state that may not be: %+v", s)
	}
	return text
}

// showResult is a result as a text.
func showResult(r api.Result) string {
	return fmt.Sprintf("code %d, fd %d, num %d, dir %t, data %q, names %q", r.Code, r.Fd, r.Num, r.Dir, r.Data, r.Names)
}

// isZero tells whether a result is the zero one.
func isZero(r api.Result) bool {
	return r.Code == 0 && r.Fd == 0 && r.Num == 0 && !r.Dir && r.Data == "" && len(r.Names) == 0
}

// do does calls by the model, which must all answer CodeOK.
func do(t *testing.T, s api.State, calls ...api.Call) api.State {
	t.Helper()
	for _, c := range calls {
		var r api.Result
		if s, r = model.Do(s, c); r.Code != api.CodeOK {
			t.Fatalf("%+v: code %d", c, r.Code)
		}
	}
	return s
}

// newState is a state of so many cores, behind calls that answer CodeOK.
func newState(t *testing.T, cores int, calls ...api.Call) api.State {
	t.Helper()
	s, e := model.New(cores)
	if e != api.OK {
		t.Fatalf("%d cores: error %d", cores, e)
	}
	return do(t, s, calls...)
}

// load makes a file system of a state.
func load(t *testing.T, s api.State) *memfs.Fs {
	t.Helper()
	f, e := memfs.Load(s)
	if e != api.OK || f == nil {
		t.Fatalf("Load: error %d, of\n%s", e, show(s))
	}
	return f
}

// wantState fails unless a file system tells a state, twice.
func wantState(t *testing.T, f *memfs.Fs, want api.State) {
	t.Helper()
	for range 2 {
		if got, e := f.State(); e != api.OK || show(got) != show(want) {
			t.Fatalf("State: error %d\n%swant\n%s", e, show(got), show(want))
		}
	}
}

// Calls of core 0.
func on(kind int, path string) api.Call { return api.Call{Kind: kind, Path: path} }
func create(path string) api.Call       { return on(api.CallCreate, path) }
func mkdir(path string) api.Call        { return on(api.CallMkdir, path) }
func opening(path string) api.Call      { return on(api.CallOpen, path) }
func unlink(path string) api.Call       { return on(api.CallUnlink, path) }
func rmdir(path string) api.Call        { return on(api.CallRmdir, path) }
func list(path string) api.Call         { return on(api.CallList, path) }
func stat(path string) api.Call         { return on(api.CallStat, path) }
func links(path string) api.Call        { return on(api.CallLinks, path) }
func link(path, to string) api.Call     { return api.Call{Kind: api.CallLink, Path: path, Path2: to} }
func rename(path, to string) api.Call   { return api.Call{Kind: api.CallRename, Path: path, Path2: to} }
func closing(fd int) api.Call           { return api.Call{Kind: api.CallClose, Fd: fd} }
func size(fd int) api.Call              { return api.Call{Kind: api.CallSize, Fd: fd} }
func fsync(fd int) api.Call             { return api.Call{Kind: api.CallFsync, Fd: fd} }
func truncate(fd, num int) api.Call     { return api.Call{Kind: api.CallTruncate, Fd: fd, Num: num} }
func read(fd, off, num int) api.Call    { return api.Call{Kind: api.CallRead, Fd: fd, Off: off, Num: num} }
func write(fd, off int, d string) api.Call {
	return api.Call{Kind: api.CallWrite, Fd: fd, Off: off, Data: d}
}

// by lets another core do a call.
func by(core int, c api.Call) api.Call {
	c.Core = core
	return c
}

// fill is so many bytes of one kind.
func fill(b byte, count int) string {
	return strings.Repeat(string([]byte{b}), count)
}

// unlike counts the places of accesses, each once.
func unlike(accesses []api.Access) int {
	count := 0
	for at, x := range accesses {
		if !slices.ContainsFunc(accesses[:at], func(other api.Access) bool { return other.At == x.At }) {
			count++
		}
	}
	return count
}

// play is calls on a file system, step by step, with all that must hold at each step.
type play struct {
	t     *testing.T
	f     *memfs.Fs
	from  api.State
	ops   []api.Op
	under []int // by core: the place of its call under way among ops, or -1
	time  int
}

func newPlay(t *testing.T, s api.State) *play {
	t.Helper()
	p := &play{t: t, f: load(t, s), from: s}
	for range s.Made {
		p.under = append(p.under, -1)
	}
	return p
}

// begin begins a call.
func (p *play) begin(c api.Call) {
	p.t.Helper()
	if e := p.f.Begin(c); e != api.OK {
		p.t.Fatalf("Begin of %+v: error %d", c, e)
	}
	if _, is := p.f.Result(c.Core); is || !p.f.Busy(c.Core) || len(p.f.Trace(c.Core)) != 0 || p.f.Touched(c.Core) != 0 {
		p.t.Fatalf("behind Begin of %+v: busy %t, result %t, trace %v, touched %d", c, p.f.Busy(c.Core), is, p.f.Trace(c.Core), p.f.Touched(c.Core))
	}
	if s, e := p.f.State(); e != api.ErrMemfsBusy || len(s.Inodes)+len(s.Open)+len(s.Made) != 0 {
		p.t.Fatalf("State while a call is under way: error %d, %+v", e, s)
	}
	p.under[c.Core] = len(p.ops)
	p.ops = append(p.ops, api.Op{Call: c, Began: p.time, Ended: -1})
	p.time++
}

// step does a step of a core's call, and tells whether that has ended.
func (p *play) step(core int) bool {
	p.t.Helper()
	before := p.f.Trace(core)
	ended, e := p.f.Step(core)
	if e != api.OK {
		p.t.Fatalf("Step(%d): error %d", core, e)
	}
	after := p.f.Trace(core)
	if len(after) < len(before) || !slices.Equal(after[:len(before)], before) {
		p.t.Fatalf("Step(%d): the trace was %v, is %v", core, before, after)
	}
	touched := p.f.Touched(core)
	if touched != unlike(after[len(before):]) || touched > api.MaxTouch {
		p.t.Fatalf("Step(%d) of %+v: touched %d, trace %v", core, p.ops[p.under[core]].Call, touched, after[len(before):])
	}
	r, is := p.f.Result(core)
	if is != ended || p.f.Busy(core) == ended || !ended && !isZero(r) {
		p.t.Fatalf("Step(%d): ended %t, result %t, busy %t", core, ended, is, p.f.Busy(core))
	}
	p.time++
	if ended {
		own := &p.ops[p.under[core]]
		own.Result, own.Ended = r, p.time
		p.under[core] = -1
	}
	return ended
}

// whole does a call to its end, alone.
func (p *play) whole(c api.Call) api.Result {
	p.t.Helper()
	p.begin(c)
	for range 200 {
		if p.step(c.Core) {
			return p.ops[len(p.ops)-1].Result
		}
	}
	p.t.Fatalf("%+v does not end", c)
	return api.Result{}
}

// busy gives the cores that have a call under way, rising.
func (p *play) busy() []int {
	var cores []int
	for core, place := range p.under {
		if place >= 0 {
			cores = append(cores, core)
		}
	}
	return cores
}

// round steps each call under way once, and tells how many there were.
func (p *play) round() int {
	p.t.Helper()
	cores := p.busy()
	for _, core := range cores {
		p.step(core)
	}
	return len(cores)
}

// wantLegal fails unless what ended, with some of what is under way, is as if one by one.
// If nothing is under way, the state is one behind such a row.
func (p *play) wantLegal() {
	p.t.Helper()
	last := ""
	if len(p.busy()) == 0 {
		s, e := p.f.State()
		if e != api.OK {
			p.t.Fatalf("State: error %d", e)
		}
		wantState(p.t, p.f, s)
		last = show(s)
	}
	search := rows{ops: p.ops, last: last, failed: map[string]struct{}{}}
	if !search.from(p.from, 0) {
		p.t.Fatalf("no row of calls, from\n%s%sto\n%s", show(p.from), p.told(), last)
	}
}

// told is the calls and what they answered, as a text.
func (p *play) told() string {
	var text strings.Builder
	for _, o := range p.ops {
		fmt.Fprintf(&text, "%d to %d: %+v: %s\n", o.Began, o.Ended, o.Call, showResult(o.Result))
	}
	return text.String()
}

// rows is a search for a row of calls as if one by one.
type rows struct {
	ops    []api.Op
	last   string              // the state behind the row; "" is any
	failed map[string]struct{} // the states, with the calls that were done, that lead nowhere
}

// from tells whether the calls that are not done go on from a state.
func (r *rows) from(s api.State, done uint) bool {
	text := show(s)
	key := fmt.Sprintf("%x\n%s", done, text)
	if _, is := r.failed[key]; is {
		return false
	}
	if r.over(done) && (r.last == "" || r.last == text) {
		return true
	}
	for at, o := range r.ops {
		if done>>at&1 == 1 || !r.mayBeNext(at, done) {
			continue
		}
		behind, is := model.Allows(s, o.Call, o.Result)
		if o.Ended < 0 {
			behind, _ = model.Do(s, o.Call)
			is = true
		}
		if is && r.from(behind, done|1<<at) {
			return true
		}
	}
	r.failed[key] = struct{}{}
	return false
}

// over tells whether all that ended is done.
func (r *rows) over(done uint) bool {
	for at, o := range r.ops {
		if o.Ended >= 0 && done>>at&1 == 0 {
			return false
		}
	}
	return true
}

// mayBeNext tells whether all that ended before a call began is done.
func (r *rows) mayBeNext(at int, done uint) bool {
	for other, o := range r.ops {
		if o.Ended >= 0 && o.Ended <= r.ops[at].Began && done>>other&1 == 0 {
			return false
		}
	}
	return true
}
