package memfs_test

import (
	"math"
	"slices"
	"testing"

	"concourse/api"
	"concourse/memfs"
	"concourse/model"
)

// P22.1: New of 1 to MaxCores cores is layer 13's New; of others it is refused.
func TestNew(t *testing.T) {
	for _, cores := range []int{math.MinInt, -8, -1, 0, api.MaxCores + 1, 16, math.MaxInt} {
		if f, e := memfs.New(cores); f != nil || e != api.ErrMemfsForm {
			t.Errorf("%d cores: error %d", cores, e)
		}
	}
	for cores := 1; cores <= api.MaxCores; cores++ {
		f, e := memfs.New(cores)
		if e != api.OK || f == nil {
			t.Fatalf("%d cores: error %d", cores, e)
		}
		wantState(t, f, newState(t, cores))
		if e := f.Begin(by(cores, create("/a"))); e != api.ErrMemfsCore {
			t.Errorf("core %d of %d: error %d", cores, cores, e)
		}
		if e := f.Begin(by(cores-1, create("/a"))); e != api.OK {
			t.Errorf("core %d of %d: error %d", cores-1, cores, e)
		}
	}
}

// fullest is a state of MaxCores cores that were given all their numbers, with a directory
// whose buckets are full, and files of MaxFile bytes, of which each core has all its
// descriptors open.
func fullest(t *testing.T) api.State {
	t.Helper()
	s := newState(t, api.MaxCores, mkdir("/d"), create("/a"))
	for r := '!'; r < 'ɐ'; r++ {
		s, _ = model.Do(s, link("/a", "/d/"+string(r)))
	}
	for core := range s.Made {
		own := "/" + string(rune('0'+core))
		s = do(t, s, by(core, mkdir(own)))
		for at := 0; s.Made[core] < api.MaxMade; at++ {
			s, _ = model.Do(s, by(core, create(own+"/"+string(rune('A'+at)))))
		}
		for fd := range api.MaxFds {
			s = do(t, s, by(core, opening(own+"/"+string(rune('A'+fd)))), by(core, write(fd, 0, fill(byte('0'+core), 256))))
		}
		s = do(t, s, by(core, unlink(own+"/A")))
	}
	if len(entriesOf(s, 2)) != api.Buckets*api.MaxSlots || len(s.Inodes) < 200 {
		t.Fatalf("%d names, %d inodes", len(entriesOf(s, 2)), len(s.Inodes))
	}
	return s
}

// P22.1: Load of a state that may be is that state.
func TestLoadMay(t *testing.T) {
	s := newState(t, 2, mkdir("/d"), create("/a"), opening("/a"), opening("/a"), by(1, opening("/a")), closing(0), by(1, write(0, 0, fill('x', 256))), unlink("/a"))
	wantState(t, load(t, s), s)
	full := fullest(t)
	if len(full.Open) != api.MaxCores*api.MaxFds {
		t.Errorf("%d descriptors", len(full.Open))
	}
	wantState(t, load(t, full), full)
	r := row(22)
	for round := range 200 {
		s := r.someState(t, 1+round%api.MaxCores, 10+round)
		wantState(t, load(t, s), s)
	}
}

// P22.1: which descriptors a core has is as it was, with those between that it has not.
func TestLoadDescriptors(t *testing.T) {
	for has := range 16 {
		s := newState(t, 3, create("/a"), create("/b"))
		for fd := range api.MaxFds {
			if has>>fd&1 == 1 {
				s.Open = append(s.Open, api.Desc{Core: 1, Fd: fd, Num: 2 + 8*(fd%2)})
			}
		}
		p := newPlay(t, s)
		wantState(t, p.f, s)
		for fd := range api.MaxFds {
			r := p.whole(by(1, opening("/a")))
			_, want := model.Do(p.from, by(1, opening("/a")))
			if showResult(r) != showResult(want) {
				t.Errorf("%b: Open %d: %s, want %s", has, fd, showResult(r), showResult(want))
			}
			p.from, _ = model.Do(p.from, by(1, opening("/a")))
		}
		wantState(t, p.f, p.from)
	}
}

// P22.1: Load of a state that may not be is refused.
func TestLoadMayNot(t *testing.T) {
	turns := map[string]func(s *api.State){
		"no cores":             func(s *api.State) { s.Made = nil },
		"nine cores":           func(s *api.State) { s.Made = make([]int, 9) },
		"33 made":              func(s *api.State) { s.Made[1] = 33 },
		"made below 0":         func(s *api.State) { s.Made[1] = -1 },
		"not made":             func(s *api.State) { s.Made[0] = 1 },
		"no root":              func(s *api.State) { s.Inodes = s.Inodes[1:] },
		"no inodes":            func(s *api.State) { s.Inodes = nil },
		"root a file":          func(s *api.State) { s.Inodes[0] = api.Inode{Num: 1} },
		"bytes of a directory": func(s *api.State) { s.Inodes[0].Data = "x" },
		"too many bytes":       func(s *api.State) { s.Inodes[2].Data = fill('x', 257) },
		"entries of a file":    func(s *api.State) { s.Inodes[2].Entries = []api.Entry{{Name: "x", Num: 10}} },
		"entries fall":         func(s *api.State) { slices.Reverse(s.Inodes[0].Entries) },
		"a wrong name":         func(s *api.State) { s.Inodes[0].Entries[0].Name = ".." },
		"no such inode":        func(s *api.State) { s.Inodes[0].Entries[0].Num = 18 },
		"far away":             func(s *api.State) { s.Inodes[0].Entries[0].Num = math.MaxInt },
		"inodes fall":          func(s *api.State) { s.Inodes[1], s.Inodes[2] = s.Inodes[2], s.Inodes[1] },
		"not found":            func(s *api.State) { s.Inodes[0].Entries = s.Inodes[0].Entries[:1] },
		"open of no core":      func(s *api.State) { s.Open[0].Core = 2 },
		"open of no file":      func(s *api.State) { s.Open[0].Num = 2 },
		"descriptor 4":         func(s *api.State) { s.Open[0].Fd = 4 },
		"open twice":           func(s *api.State) { s.Open = append(s.Open, s.Open[0]) },
	}
	for what, turn := range turns {
		s := newState(t, 2, mkdir("/d"), create("/a"), opening("/a"))
		turn(&s)
		if f, e := memfs.Load(s); f != nil || e != api.ErrMemfsForm {
			t.Errorf("%s: error %d", what, e)
		}
	}
	if f, e := memfs.Load(api.State{}); f != nil || e != api.ErrMemfsForm {
		t.Errorf("nothing: error %d", e)
	}
}

// P22.1: which error Begin answers, if several apply, and that it then does nothing.
func TestBeginErrors(t *testing.T) {
	f := load(t, newState(t, 2))
	if e := f.Begin(by(1, list("/"))); e != api.OK {
		t.Fatal(e)
	}
	for _, core := range []int{math.MinInt, -1, 2, 8, math.MaxInt} {
		for _, kind := range []int{math.MinInt, -1, 0, 16, 17, math.MaxInt} {
			if e := f.Begin(api.Call{Kind: kind, Core: core}); e != api.ErrMemfsCore {
				t.Errorf("kind %d of core %d: error %d", kind, core, e)
			}
		}
	}
	for _, kind := range []int{math.MinInt, -1, 17, 18, math.MaxInt} {
		for core := range 2 {
			if e := f.Begin(api.Call{Kind: kind, Core: core}); e != api.ErrMemfsForm {
				t.Errorf("kind %d of core %d: error %d", kind, core, e)
			}
		}
	}
	if f.Busy(0) || !f.Busy(1) {
		t.Error("a Begin that is refused begins")
	}
	for kind := range 17 {
		if e := f.Begin(api.Call{Kind: kind, Core: 1}); e != api.ErrMemfsBusy {
			t.Errorf("kind %d of a busy core: error %d", kind, e)
		}
		own := load(t, newState(t, 1))
		if e := own.Begin(api.Call{Kind: kind}); e != api.OK || !own.Busy(0) {
			t.Errorf("kind %d: error %d", kind, e)
		}
	}
	for ended := false; !ended; {
		ended, _ = f.Step(1)
	}
	if r, is := f.Result(1); !is || !isZero(r) {
		t.Errorf("a Begin that is refused changes the call: %s", showResult(r))
	}
}

// P22.1: which error Step answers, and that it then does nothing.
func TestStepErrors(t *testing.T) {
	f := load(t, newState(t, 2, create("/a")))
	for _, core := range []int{math.MinInt, -1, 2, 8, math.MaxInt} {
		if ended, e := f.Step(core); ended || e != api.ErrMemfsCore {
			t.Errorf("core %d: error %d, ended %t", core, e, ended)
		}
	}
	idle := func(core int) {
		t.Helper()
		was, touched := f.Trace(core), f.Touched(core)
		ended, e := f.Step(core)
		if ended || e != api.ErrMemfsBusy || f.Touched(core) != touched || !slices.Equal(f.Trace(core), was) {
			t.Errorf("core %d is idle: error %d, ended %t, touched %d, trace %v", core, e, ended, f.Touched(core), f.Trace(core))
		}
	}
	idle(0)
	f.Begin(by(1, stat("/a")))
	idle(0)
	for f.Busy(1) {
		if _, e := f.Step(1); e != api.OK {
			t.Fatal(e)
		}
	}
	idle(1)
	idle(0)
	if len(f.Trace(1)) == 0 || f.Touched(1) == 0 {
		t.Error("no trace of a Stat")
	}
}

// P22.1: what is told of cores that are none.
func TestNoSuchCore(t *testing.T) {
	f := load(t, newState(t, 2))
	for core := range 2 {
		f.Begin(by(core, list("/")))
		f.Step(core)
	}
	for _, core := range []int{math.MinInt, -1, 2, 8, math.MaxInt} {
		r, is := f.Result(core)
		if is || !isZero(r) || f.Busy(core) || len(f.Trace(core)) != 0 || f.Touched(core) != 0 {
			t.Errorf("core %d: busy %t, %s, trace %v, touched %d", core, f.Busy(core), showResult(r), f.Trace(core), f.Touched(core))
		}
	}
}

// P22.1: what is told ahead of any call, while one is under way, when it has ended, and
// behind the next Begin.
func TestWhatIsTold(t *testing.T) {
	s := newState(t, 2, mkdir("/d"), create("/d/a"), opening("/d/a"), write(0, 0, fill('x', 256)))
	p := newPlay(t, s)
	for core := range 2 {
		r, is := p.f.Result(core)
		if is || !isZero(r) || p.f.Busy(core) || len(p.f.Trace(core)) != 0 || p.f.Touched(core) != 0 {
			t.Errorf("ahead of any call core %d: %s, busy %t, trace %v", core, showResult(r), p.f.Busy(core), p.f.Trace(core))
		}
	}
	if got := p.whole(list("/d")); !slices.Equal(got.Names, []string{"a"}) {
		t.Errorf("List: %s", showResult(got))
	}
	own, touched := p.f.Trace(0), p.f.Touched(0)
	if unlike(own) < api.Buckets || touched == 0 {
		t.Errorf("trace of a List %v, touched %d", own, touched)
	}
	// Another core's call changes nothing of what is told of this one, nor does State.
	p.whole(by(1, create("/d/b")))
	p.f.State()
	r, is := p.f.Result(0)
	if !is || !slices.Equal(r.Names, []string{"a"}) || !slices.Equal(p.f.Trace(0), own) || p.f.Touched(0) != touched || p.f.Busy(0) {
		t.Errorf("%s, trace %v, touched %d", showResult(r), p.f.Trace(0), p.f.Touched(0))
	}
	p.begin(read(0, 0, 256))
	for steps := 1; !p.step(0); steps++ {
		if r, is := p.f.Result(0); is || !isZero(r) || steps > 200 {
			t.Fatalf("under way: %s", showResult(r))
		}
	}
	if r, is := p.f.Result(0); !is || r.Data != fill('x', 256) || unlike(p.f.Trace(0)) < 16 {
		t.Errorf("%s, trace %v", showResult(r), p.f.Trace(0))
	}
	p.begin(api.Call{Kind: api.CallSync})
}

// P22.1: the trace is the words that are read and written, told as such.
func TestTraceTellsWritings(t *testing.T) {
	p := newPlay(t, newState(t, 2, create("/a"), opening("/a"), write(0, 0, "data")))
	for _, c := range []api.Call{list("/"), stat("/a"), links("/a"), read(0, 0, 9), size(0), fsync(0), create("/a"), unlink("/x"), closing(3)} {
		p.whole(c)
		for _, x := range p.f.Trace(0) {
			if x.Write {
				t.Errorf("%+v writes word %d", c, x.At)
			}
		}
	}
	for _, c := range []api.Call{write(0, 0, "D"), truncate(0, 9), create("/b"), mkdir("/c"), link("/a", "/d"), rename("/d", "/e"), unlink("/e"), rmdir("/c"), opening("/a"), closing(1)} {
		p.whole(c)
		if !slices.ContainsFunc(p.f.Trace(0), func(x api.Access) bool { return x.Write }) {
			t.Errorf("%+v writes no word: %v", c, p.f.Trace(0))
		}
	}
}

// R1, R3: a nil file system, and one that New did not make.
func TestNilAndZero(t *testing.T) {
	for _, f := range []*memfs.Fs{nil, {}} {
		wantBegin, wantStep, wantState := api.ErrMemfsCore, api.ErrMemfsCore, api.ErrMemfsForm
		if f == nil {
			wantBegin, wantStep, wantState = api.ErrNil, api.ErrNil, api.ErrNil
		}
		for _, core := range []int{-1, 0, 1} {
			for _, kind := range []int{-1, 0, 17} {
				if e := f.Begin(api.Call{Kind: kind, Core: core}); e != wantBegin {
					t.Errorf("Begin: error %d", e)
				}
			}
			if ended, e := f.Step(core); ended || e != wantStep {
				t.Errorf("Step: error %d", e)
			}
			r, is := f.Result(core)
			if is || !isZero(r) || f.Busy(core) || len(f.Trace(core)) != 0 || f.Touched(core) != 0 {
				t.Errorf("%s, busy %t", showResult(r), f.Busy(core))
			}
		}
		if s, e := f.State(); e != wantState || len(s.Inodes)+len(s.Open)+len(s.Made) != 0 {
			t.Errorf("State: error %d, %+v", e, s)
		}
	}
}
