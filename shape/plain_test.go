package shape_test

import (
	"fmt"
	"slices"
	"strings"
	"testing"

	"concourse/api"
	"concourse/model"
	"concourse/shape"
)

// row is a row of numbers that is the same in each run.
type row uint64

func (r *row) below(n int) int {
	*r = *r*6364136223846793005 + 1442695040888963407
	return int(uint64(*r) >> 33 % uint64(n))
}

// pick takes one of several.
func pick[T any](r *row, of ...T) T {
	return of[r.below(len(of))]
}

// thing is a file or a directory of the plain record.
type thing struct {
	num  int
	dir  bool
	data []byte
}

// record is a plain record of what calls did: every path that there is, by its names with a stroke behind each (the
// root's is the empty one), what it leads to, and who has what open.
type record struct {
	made []int
	at   map[string]*thing
	open map[[2]int]*thing
}

func newRecord(cores int) *record {
	return &record{made: make([]int, cores), at: map[string]*thing{"": {num: 1, dir: true}}, open: map[[2]int]*thing{}}
}

// keyOf is a path as the record's keys are.
func keyOf(p string) string {
	return strings.TrimPrefix(strings.TrimSuffix(p, "/")+"/", "/")
}

// note takes a call that answered CodeOK into the record.
func (w *record) note(c api.Call, r api.Result) {
	own := [2]int{c.Core, c.Fd}
	switch c.Kind {
	case api.CallCreate, api.CallMkdir:
		w.at[keyOf(c.Path)] = &thing{num: 2 + c.Core + 8*w.made[c.Core], dir: c.Kind == api.CallMkdir}
		w.made[c.Core]++
	case api.CallOpen:
		w.open[[2]int{c.Core, r.Fd}] = w.at[keyOf(c.Path)]
	case api.CallClose:
		delete(w.open, own)
	case api.CallWrite:
		x := w.open[own]
		for at := range len(c.Data) {
			x.data = append(x.data, make([]byte, max(0, c.Off+at+1-len(x.data)))...)
			x.data[c.Off+at] = c.Data[at]
		}
	case api.CallTruncate:
		x := w.open[own]
		x.data = append(x.data, make([]byte, 256)...)[:c.Num:c.Num]
	case api.CallLink:
		w.at[keyOf(c.Path2)] = w.at[keyOf(c.Path)]
	case api.CallUnlink, api.CallRmdir:
		delete(w.at, keyOf(c.Path))
	case api.CallRename:
		w.move(keyOf(c.Path), keyOf(c.Path2))
	}
}

// move lets all paths that begin with one begin with another.
func (w *record) move(from, to string) {
	moved := map[string]*thing{}
	for key, x := range w.at {
		if behind, is := strings.CutPrefix(key, from); is {
			key = to + behind
		}
		moved[key] = x
	}
	w.at = moved
}

// paths are the record's keys, cut into names: depth first, names rising, is just the row of lists of names.
func (w *record) paths() [][]string {
	var all [][]string
	for key := range w.at {
		var names []string
		if key != "" {
			names = strings.Split(strings.TrimSuffix(key, "/"), "/")
		}
		all = append(all, names)
	}
	slices.SortFunc(all, slices.Compare)
	return all
}

// bytesOf tells bytes as the chapter does.
func bytesOf(data []byte) string {
	if len(data) == 0 {
		return "-"
	}
	return fmt.Sprintf("%x", data)
}

// files are the lines that Files has to tell.
func (w *record) files() []string {
	var lines []string
	for _, names := range w.paths() {
		p := "/" + strings.Join(names, "/")
		x := w.at[keyOf(p)]
		if x.dir {
			lines = append(lines, fmt.Sprintf("d %s %d", p, x.num))
		} else {
			lines = append(lines, fmt.Sprintf("f %s %d %s", p, x.num, bytesOf(x.data)))
		}
	}
	return lines
}

// hasPath tells whether a path leads to a thing.
func (w *record) hasPath(of *thing) bool {
	for _, x := range w.at {
		if x == of {
			return true
		}
	}
	return false
}

// behind are the lines that Of tells behind those of Files.
func (w *record) behind() []string {
	var open, unnamed []string
	byNum := map[int]*thing{}
	for core := range w.made {
		for fd := range 4 {
			if x := w.open[[2]int{core, fd}]; x != nil {
				open = append(open, fmt.Sprintf("o %d %d %d", core, fd, x.num))
				byNum[x.num] = x
			}
		}
	}
	for num := range 300 {
		if x := byNum[num]; x != nil && !w.hasPath(x) {
			unnamed = append(unnamed, fmt.Sprintf("u %d %s", num, bytesOf(x.data)))
		}
	}
	made := "m"
	for _, count := range w.made {
		made += fmt.Sprintf(" %d", count)
	}
	return append(append(unnamed, open...), made)
}

// desk is a state that calls led to, with the record of them beside it.
type desk struct {
	t *testing.T
	s api.State
	w *record
}

func newDesk(t *testing.T, cores int) *desk {
	t.Helper()
	s, e := model.New(cores)
	if e != api.OK {
		t.Fatalf("New(%d): error %d", cores, e)
	}
	return &desk{t, s, newRecord(cores)}
}

// do does a call, whatever its code.
func (d *desk) do(c api.Call) api.Result {
	behind, r := model.Do(d.s, c)
	d.s = behind
	if r.Code == api.CodeOK {
		d.w.note(c, r)
	}
	return r
}

// ok does calls that must answer CodeOK, and holds what they lead to against the record.
func (d *desk) ok(cs ...api.Call) {
	d.t.Helper()
	for _, c := range cs {
		if r := d.do(c); r.Code != api.CodeOK {
			d.t.Fatalf("%+v: code %d", c, r.Code)
		}
	}
	d.look()
}

// look holds Files and Of against the record, line by line.
func (d *desk) look() {
	d.t.Helper()
	files := d.w.files()
	wantLines(d.t, d.s, files, append(files, d.w.behind()...))
}

// wantLines fails unless Files and Of of a state tell these lines.
func wantLines(t *testing.T, s api.State, files, all []string) {
	t.Helper()
	got, e := shape.Files(s)
	sameLines(t, "Files", got, e, files)
	got, e = shape.Of(s)
	sameLines(t, "Of", got, e, all)
}

// sameLines fails at the first line that is not the one that is wanted.
func sameLines(t *testing.T, what, got string, e api.Errno, want []string) {
	t.Helper()
	if e != api.OK {
		t.Fatalf("%s: error %d", what, e)
	}
	lines := strings.SplitAfter(got, "\n")
	for at, line := range append(slices.Clone(want), "") {
		if line != "" {
			line += "\n"
		}
		if at >= len(lines) || lines[at] != line {
			t.Fatalf("%s, line %d: want %q, of\n%s", what, at, line, got)
		}
	}
	if len(lines) != len(want)+1 {
		t.Fatalf("%s: %d lines, want %d", what, len(lines)-1, len(want))
	}
}

// on is a call of core 0 on paths.
func on(kind int, paths ...string) api.Call {
	c := api.Call{Kind: kind, Path: paths[0]}
	if len(paths) > 1 {
		c.Path2 = paths[1]
	}
	return c
}

// by is that call, of a core.
func by(core int, c api.Call) api.Call {
	c.Core = core
	return c
}

func create(p string) api.Call     { return on(api.CallCreate, p) }
func mkdir(p string) api.Call      { return on(api.CallMkdir, p) }
func opening(p string) api.Call    { return on(api.CallOpen, p) }
func link(p, p2 string) api.Call   { return on(api.CallLink, p, p2) }
func unlink(p string) api.Call     { return on(api.CallUnlink, p) }
func rename(p, p2 string) api.Call { return on(api.CallRename, p, p2) }
func closing(fd int) api.Call      { return api.Call{Kind: api.CallClose, Fd: fd} }

func write(fd, off int, data string) api.Call {
	return api.Call{Kind: api.CallWrite, Fd: fd, Off: off, Data: data}
}

func truncate(fd, num int) api.Call {
	return api.Call{Kind: api.CallTruncate, Fd: fd, Num: num}
}
