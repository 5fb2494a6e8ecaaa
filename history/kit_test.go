package history_test

import (
	"fmt"
	"slices"
	"strings"
	"testing"

	"concourse/api"
	"concourse/history"
	"concourse/model"
	"concourse/shape"
)

// show is a state that may be as a text: two of them have one text just if they are one.
func show(s api.State) string {
	text, e := shape.Of(s)
	if e != api.OK {
		return fmt.Sprintf("a state that may not be: %+v", s)
	}
	return text
}

// told is operations as a text.
func told(ops []api.Op) string {
	var text strings.Builder
	for _, o := range ops {
		fmt.Fprintf(&text, "%d to %d: %+v: %+v\n", o.Began, o.Ended, o.Call, o.Result)
	}
	return text.String()
}

// do does calls by the model, which must all answer CodeOK.
func do(t *testing.T, s api.State, calls ...api.Call) api.State {
	t.Helper()
	for _, c := range calls {
		var r api.Result
		if s, r = model.Do(s, c); r.Code != api.CodeOK {
			t.Fatalf("%+v: code %d", c, r.Code)
		}
	}
	return s
}

// newState is a state of so many cores, behind calls that answer CodeOK.
func newState(t *testing.T, cores int, calls ...api.Call) api.State {
	t.Helper()
	s, e := model.New(cores)
	if e != api.OK {
		t.Fatalf("%d cores: error %d", cores, e)
	}
	return do(t, s, calls...)
}

// aState has three files, two of them in directories, one of them open; a file without entries, and an empty directory.
// Core 0 has descriptors 0 and 2, core 1 has 0, core 2 has none.
func aState(t *testing.T) api.State {
	t.Helper()
	return newState(t, 3,
		mkdir("/d"), create("/a"), create("/d/f"), mkdir("/e"), by(1, create("/b")), by(1, create("/u")), link("/a", "/d/a"),
		opening("/a"), opening("/u"), opening("/u"), closing(1), by(1, opening("/b")), unlink("/u"),
		write(0, 0, "0123456789"), write(2, 0, "held"), by(1, write(0, 0, "bytes")))
}

// Calls of core 0.
func on(kind int, path string) api.Call { return api.Call{Kind: kind, Path: path} }
func create(path string) api.Call       { return on(api.CallCreate, path) }
func mkdir(path string) api.Call        { return on(api.CallMkdir, path) }
func opening(path string) api.Call      { return on(api.CallOpen, path) }
func unlink(path string) api.Call       { return on(api.CallUnlink, path) }
func rmdir(path string) api.Call        { return on(api.CallRmdir, path) }
func list(path string) api.Call         { return on(api.CallList, path) }
func stat(path string) api.Call         { return on(api.CallStat, path) }
func links(path string) api.Call        { return on(api.CallLinks, path) }
func link(path, to string) api.Call     { return api.Call{Kind: api.CallLink, Path: path, Path2: to} }
func rename(path, to string) api.Call   { return api.Call{Kind: api.CallRename, Path: path, Path2: to} }
func closing(fd int) api.Call           { return api.Call{Kind: api.CallClose, Fd: fd} }
func size(fd int) api.Call              { return api.Call{Kind: api.CallSize, Fd: fd} }
func fsync(fd int) api.Call             { return api.Call{Kind: api.CallFsync, Fd: fd} }
func syncing() api.Call                 { return api.Call{Kind: api.CallSync} }
func truncate(fd, num int) api.Call     { return api.Call{Kind: api.CallTruncate, Fd: fd, Num: num} }
func read(fd, off, num int) api.Call    { return api.Call{Kind: api.CallRead, Fd: fd, Off: off, Num: num} }
func write(fd, off int, d string) api.Call {
	return api.Call{Kind: api.CallWrite, Fd: fd, Off: off, Data: d}
}

// by lets another core do a call.
func by(core int, c api.Call) api.Call {
	c.Core = core
	return c
}

// kinds is how many kinds of calls there are.
const kinds = api.CallSync + 1

// op is a call that answered just a code.
func op(c api.Call, code, began, ended int) api.Op {
	return answered(c, api.Result{Code: code}, began, ended)
}

// answered is a call that answered a result.
func answered(c api.Call, r api.Result, began, ended int) api.Op {
	return api.Op{Call: c, Result: r, Began: began, Ended: ended}
}

// going is a call that has not ended.
func going(c api.Call, began int) api.Op {
	return api.Op{Call: c, Began: began, Ended: -1}
}

// atOnce are calls that were all under way at one time, done by the model in this row.
func atOnce(s api.State, calls ...api.Call) ([]api.Op, api.State) {
	var ops []api.Op
	for at, c := range calls {
		var r api.Result
		s, r = model.Do(s, c)
		ops = append(ops, answered(c, r, at, 100+at))
	}
	return ops, s
}

// wantLegal fails unless Legal tells this of operations, twice, and the plain words as well, if they are few.
func wantLegal(t *testing.T, want bool, s api.State, ops ...api.Op) {
	t.Helper()
	for range 2 {
		if got, e := history.Legal(s, ops); got != want || e != api.OK {
			t.Fatalf("Legal: %t, error %d, want %t, from\n%s%s", got, e, want, show(s), told(ops))
		}
	}
	if len(ops) < 6 && (len(plain(s, ops)) > 0) != want {
		t.Fatalf("by plain words it is not %t, from\n%s%s", want, show(s), told(ops))
	}
	if got, e := history.Ends(s, ops, s); e != api.OK || got && !want {
		t.Fatalf("Ends: %t, error %d, though Legal is %t, from\n%s%s", got, e, want, show(s), told(ops))
	}
}

// wantEnds fails unless Ends tells this of operations and a state, twice.
func wantEnds(t *testing.T, want bool, s api.State, last api.State, ops ...api.Op) {
	t.Helper()
	for range 2 {
		if got, e := history.Ends(s, ops, last); got != want || e != api.OK {
			t.Fatalf("Ends: %t, error %d, want %t, from\n%sto\n%s%s", got, e, want, show(s), show(last), told(ops))
		}
	}
	if legal, e := history.Legal(s, ops); e != api.OK || want && !legal {
		t.Fatalf("Legal: %t, error %d, where Ends holds, from\n%s%s", legal, e, show(s), told(ops))
	}
}

// inAnyList calls a test with operations handed in in each row.
func inAnyList(ops []api.Op, test func(ops []api.Op)) {
	if len(ops) > 5 {
		test(ops)
		reversed := slices.Clone(ops)
		slices.Reverse(reversed)
		test(reversed)
		return
	}
	inEachRow(ops, func(ops []api.Op) { test(slices.Clone(ops)) })
}

// row is a row of numbers that is the same in each run.
type row uint64

func (r *row) below(n int) int {
	*r = *r*6364136223846793005 + 1442695040888963407
	return int(uint64(*r) >> 33 % uint64(n))
}

// oneOf gives one of several.
func oneOf[T any](r *row, all ...T) T {
	return all[r.below(len(all))]
}

// shuffle hands operations in in a drawn row.
func (r *row) shuffle(ops []api.Op) {
	for at := range ops {
		other := at + r.below(len(ops)-at)
		ops[at], ops[other] = ops[other], ops[at]
	}
}
