package model_test

import (
	"slices"
	"testing"

	"concourse/api"
	"concourse/model"
)

// desk is a state with, beside it, the plain record of it: each call is held against that.
type desk struct {
	t *testing.T
	s api.State
	w *world
}

// newDesk gives a state of so many cores that nobody has called yet.
func newDesk(t *testing.T, cores int) *desk {
	t.Helper()
	s, e := model.New(cores)
	if e != api.OK {
		t.Fatalf("New(%d): error %d", cores, e)
	}
	return &desk{t: t, s: s, w: newWorld(cores)}
}

// do does a call, and holds what it answers and leaves against the record and against Allows.
func (d *desk) do(c api.Call) api.Result {
	d.t.Helper()
	before := show(d.s)
	behind, got := model.Do(d.s, c)
	if want := d.w.do(c, -1); showResult(got) != showResult(want) {
		d.t.Fatalf("%+v: %s, want %s, at\n%s", c, showResult(got), showResult(want), before)
	}
	if want := d.w.state(); show(behind) != show(want) {
		d.t.Fatalf("%+v: behind it\n%swant\n%sat\n%s", c, show(behind), show(want), before)
	}
	if !model.May(behind) {
		d.t.Fatalf("%+v: what is behind it may not be\n%s", c, show(behind))
	}
	if got.Code != api.CodeOK && show(behind) != before {
		d.t.Fatalf("%+v: code %d, and the state is turned\n%s", c, got.Code, show(behind))
	}
	if other, may := model.Allows(d.s, c, got); !may || show(other) != show(behind) {
		d.t.Fatalf("%+v: Allows what Do answers: %t\n%s", c, may, show(other))
	}
	if show(d.s) != before {
		d.t.Fatalf("%+v: what was handed in is changed\n%s", c, show(d.s))
	}
	d.s = behind
	return got
}

// want does a call, and fails unless it answers this.
func (d *desk) want(c api.Call, want api.Result) {
	d.t.Helper()
	if got := d.do(c); showResult(got) != showResult(want) {
		d.t.Errorf("%+v: %s, want %s", c, showResult(got), showResult(want))
	}
}

// ok does calls that answer CodeOK with nothing beside it.
func (d *desk) ok(cs ...api.Call) {
	d.t.Helper()
	for _, c := range cs {
		d.want(c, api.Result{})
	}
}

// code does calls that answer a code.
func (d *desk) code(code int, cs ...api.Call) {
	d.t.Helper()
	for _, c := range cs {
		d.want(c, api.Result{Code: code})
	}
}

// opens lets a core open a path and get this descriptor.
func (d *desk) opens(core int, p string, fd int) {
	d.t.Helper()
	d.want(api.Call{Kind: api.CallOpen, Core: core, Path: p}, api.Result{Fd: fd})
}

// holds fails unless a descriptor's file has these bytes.
func (d *desk) holds(core, fd int, data string) {
	d.t.Helper()
	d.want(api.Call{Kind: api.CallRead, Core: core, Fd: fd, Num: 256}, api.Result{Data: data})
	d.want(api.Call{Kind: api.CallSize, Core: core, Fd: fd}, api.Result{Num: len(data)})
}

// look holds Find and Links of all that there is, and of what there is not, against the record.
func (d *desk) look(paths ...string) {
	d.t.Helper()
	for _, p := range append(d.w.paths(5), paths...) {
		want := 0
		x, code := d.w.find(p)
		if code == 0 {
			want = x.num
		}
		if num, got := model.Find(d.s, p); num != want || got != code {
			d.t.Fatalf("Find(%q): %d, code %d, want %d, code %d, at\n%s", p, num, got, want, code, show(d.s))
		}
	}
	all := d.w.nodes()
	for num := -1; num < 270; num++ {
		want := 0
		if x := all[num]; x != nil {
			want = entries(d.w.root, x)
		}
		if got := model.Links(d.s, num); got != want {
			d.t.Fatalf("Links(%d): %d, want %d, at\n%s", num, got, want, show(d.s))
		}
	}
}

// has tells whether an inode is there.
func (d *desk) has(num int) bool {
	return slices.ContainsFunc(d.s.Inodes, func(x api.Inode) bool { return x.Num == num })
}

// on is a call of core 0 on paths.
func on(kind int, paths ...string) api.Call {
	c := api.Call{Kind: kind, Path: paths[0]}
	if len(paths) > 1 {
		c.Path2 = paths[1]
	}
	return c
}

// by is that call, of a core.
func by(core int, c api.Call) api.Call {
	c.Core = core
	return c
}

func create(p string) api.Call     { return on(api.CallCreate, p) }
func mkdir(p string) api.Call      { return on(api.CallMkdir, p) }
func link(p, p2 string) api.Call   { return on(api.CallLink, p, p2) }
func unlink(p string) api.Call     { return on(api.CallUnlink, p) }
func rmdir(p string) api.Call      { return on(api.CallRmdir, p) }
func rename(p, p2 string) api.Call { return on(api.CallRename, p, p2) }

func closing(fd int) api.Call { return api.Call{Kind: api.CallClose, Fd: fd} }

func read(fd, off, num int) api.Call {
	return api.Call{Kind: api.CallRead, Fd: fd, Off: off, Num: num}
}

func write(fd, off int, data string) api.Call {
	return api.Call{Kind: api.CallWrite, Fd: fd, Off: off, Data: data}
}

func truncate(fd, num int) api.Call {
	return api.Call{Kind: api.CallTruncate, Fd: fd, Num: num}
}
