package model_test

import (
	"math"
	"strings"
	"sync"
	"testing"

	"concourse/api"
	"concourse/model"
)

// someName is a name, often of one bucket (a, i, q, y, A, I have it), and at times one that no name may be.
func (r *row) someName() string {
	names := []string{"a", "i", "q", "y", "A", "I", "a", "i", "b", "c", "ab", "é", "日本", "123456789012"}
	wrong := []string{"", ".", "..", "1234567890123", "a\x01", "\xff", "a\x7f"}
	if r.below(60) == 0 {
		return wrong[r.below(len(wrong))]
	}
	return names[r.below(len(names))]
}

// somePath is mostly a path that is there, with at times a name behind it or one fewer.
func (r *row) somePath(w *world) string {
	there := w.paths(4)
	p := there[r.below(len(there))]
	switch r.below(8) {
	case 0, 1, 2:
		p = strings.TrimSuffix(p, "/") + "/" + r.someName()
	case 3:
		p = "/" + r.someName()
	case 4:
		p = "/" + r.someName() + "/" + r.someName()
	case 5:
		if r.below(10) == 0 {
			p = []string{"", "a", "//", p + "/", strings.Repeat("/a", 5), strings.Repeat("/12345678", 8)}[r.below(6)]
		}
	}
	return p
}

// someSize is a place or a length, mostly one that may be.
func (r *row) someSize() int {
	edges := []int{-1, 0, 1, 255, 256, 257, math.MinInt, math.MaxInt}
	if r.below(4) == 0 {
		return edges[r.below(len(edges))]
	}
	return r.below(40)
}

// someData is up to 40 bytes, and at times up to 300.
func (r *row) someData() string {
	size := r.below(40)
	if r.below(6) == 0 {
		size = r.below(300)
	}
	data := make([]byte, size)
	for at := range data {
		data[at] = byte(r.below(256))
	}
	return string(data)
}

// someCall is any call, mostly of a core that there is; fields that its kind does not use are filled too.
func (r *row) someCall(w *world) api.Call {
	kinds := []int{api.CallCreate, api.CallCreate, api.CallMkdir, api.CallOpen, api.CallWrite, api.CallLink, api.CallRename}
	c := api.Call{Kind: r.below(17), Core: r.below(len(w.made)), Fd: r.below(6) - 1, Off: r.someSize(), Num: r.someSize()}
	if r.below(3) == 0 {
		c.Kind = kinds[r.below(len(kinds))]
	}
	c.Path, c.Path2, c.Data = r.somePath(w), r.somePath(w), r.someData()
	if r.below(50) == 0 {
		c.Core = []int{-1, len(w.made), 8, math.MinInt, math.MaxInt}[r.below(5)]
	}
	if r.below(50) == 0 {
		c.Kind = []int{-1, 17, 18, math.MinInt, math.MaxInt}[r.below(5)]
	}
	return c
}

// codesOf are the codes that a kind of call may answer.
func codesOf(kind int) []int {
	path := []int{api.CodeOK, api.EINVAL, api.ENAMETOOLONG, api.ENOENT, api.ENOTDIR}
	switch kind {
	case api.CallCreate, api.CallMkdir, api.CallRename:
		return append(path, api.EEXIST, api.ENOSPC)
	case api.CallOpen:
		return append(path, api.EISDIR, api.EMFILE)
	case api.CallLink:
		return append(path, api.EISDIR, api.EEXIST, api.ENOSPC)
	case api.CallUnlink, api.CallLinks:
		return append(path, api.EISDIR)
	case api.CallRmdir:
		return append(path, api.ENOTEMPTY)
	case api.CallList, api.CallStat:
		return path
	case api.CallWrite:
		return []int{api.CodeOK, api.EINVAL, api.EBADF, api.ENOSPC}
	case api.CallSync:
		return []int{api.CodeOK, api.EINVAL}
	}
	return []int{api.CodeOK, api.EINVAL, api.EBADF}
}

// openElsewhere lets an Open take another descriptor than the least that is free, by Allows, at times.
func (d *desk) openElsewhere(g *row, c api.Call) bool {
	d.t.Helper()
	_, r := model.Do(d.s, c)
	if c.Kind != api.CallOpen || r.Code != api.CodeOK || g.below(2) == 0 {
		return false
	}
	fd := g.below(4)
	if d.w.fds[c.Core][fd] != nil {
		return false
	}
	behind, may := model.Allows(d.s, c, api.Result{Fd: fd})
	d.w.do(c, fd)
	if want := d.w.state(); !may || !model.May(behind) || show(behind) != show(want) {
		d.t.Fatalf("%+v as %d: %t\n%swant\n%s", c, fd, may, show(behind), show(want))
	}
	d.s = behind
	return true
}

// P13.1 to P13.3: rows of all calls of several cores are as in the plain record, with every code that a call may answer.
func TestRowsOfCalls(t *testing.T) {
	g := row(13)
	seen := map[[2]int]int{}
	for round := range 160 {
		d := newDesk(t, 1+round%api.MaxCores)
		for step := range 160 {
			c := g.someCall(d.w)
			if d.openElsewhere(&g, c) {
				continue
			}
			seen[[2]int{c.Kind, d.do(c).Code}]++
			if step%20 == 0 {
				d.look(g.somePath(d.w), g.somePath(d.w), g.somePath(d.w))
			}
		}
	}
	for kind := range 17 {
		for _, code := range codesOf(kind) {
			if seen[[2]int{kind, code}] == 0 {
				t.Errorf("no call %d answered code %d", kind, code)
			}
			delete(seen, [2]int{kind, code})
		}
	}
	for at := range seen {
		if at[0] >= 0 && at[0] < 17 {
			t.Errorf("a call %d answered code %d", at[0], at[1])
		}
	}
}

// P13.2: rows of one directory's names, with its buckets often full.
func TestRowsWithinADirectory(t *testing.T) {
	g := row(7)
	for range 40 {
		d := newDesk(t, 2)
		d.ok(mkdir("/d"))
		kinds := []int{api.CallCreate, api.CallMkdir, api.CallLink, api.CallRename, api.CallRename, api.CallUnlink, api.CallRmdir}
		for range 150 {
			at := func() string {
				return []string{"/d/", "/d/", "/d/", "/"}[g.below(4)] + string(rune('a'+g.below(26)))
			}
			c := api.Call{Kind: kinds[g.below(len(kinds))], Core: g.below(2), Path: at(), Path2: at()}
			if c.Path != "/d" && c.Path2 != "/d" {
				d.do(c)
			}
		}
	}
}

// R5: a call answers the same again, and from several goroutines at one time.
func TestCallsAtOneTime(t *testing.T) {
	d := newDesk(t, 2)
	d.ok(mkdir("/d"), create("/d/a"))
	d.opens(1, "/d/a", 0)
	d.want(by(1, write(0, 3, "xyz")), api.Result{Num: 3})
	calls := []api.Call{
		create("/d/b"), rename("/d/a", "/x"), unlink("/d/a"), by(1, write(0, 0, "new")), on(api.CallList, "/d"), rmdir("/d"),
		by(1, read(0, 0, 9)), by(1, closing(0)), on(api.CallOpen, "/d/a"),
	}
	var want []string
	for _, c := range calls {
		s, r := model.Do(d.s, c)
		want = append(want, show(s)+showResult(r))
	}
	var group sync.WaitGroup
	for worker := range 8 {
		group.Go(func() {
			for turn := range 200 {
				at := (worker + turn) % len(calls)
				s, r := model.Do(d.s, calls[at])
				if show(s)+showResult(r) != want[at] {
					t.Errorf("%+v: %s", calls[at], showResult(r))
				}
				if _, may := model.Allows(d.s, calls[at], r); !may || !model.May(s) {
					t.Errorf("%+v: not allowed", calls[at])
				}
			}
		})
	}
	group.Wait()
}
