package depend_test

import (
	"cmp"
	"fmt"
	"slices"
	"strings"
	"testing"

	"concourse/api"
	"concourse/depend"
	"concourse/model"
)

// row is a row of numbers that is the same in each run.
type row uint64

func (r *row) below(n int) int {
	*r = *r*6364136223846793005 + 1442695040888963407
	return int(uint64(*r) >> 33 % uint64(n))
}

// pick takes one of several.
func pick[T any](r *row, of ...T) T {
	return of[r.below(len(of))]
}

// record is a plain record of what calls did: of every path that there is (the root's is the empty one) the number that
// it leads to, and who has which number open.
type record struct {
	made []int
	at   map[string]int
	open map[[2]int]int
}

func newRecord(cores int) *record {
	return &record{made: make([]int, cores), at: map[string]int{"": 1}, open: map[[2]int]int{}}
}

// next is the number that a core's next inode has.
func (w *record) next(core int) int {
	return 2 + core + 8*w.made[core]
}

// note takes a call that answered CodeOK into the record.
func (w *record) note(c api.Call, r api.Result) {
	switch c.Kind {
	case api.CallCreate, api.CallMkdir:
		w.at[c.Path] = w.next(c.Core)
		w.made[c.Core]++
	case api.CallOpen:
		w.open[[2]int{c.Core, r.Fd}] = w.at[c.Path]
	case api.CallClose:
		delete(w.open, [2]int{c.Core, c.Fd})
	case api.CallLink:
		w.at[c.Path2] = w.at[c.Path]
	case api.CallUnlink, api.CallRmdir:
		delete(w.at, c.Path)
	case api.CallRename:
		moved := map[string]int{}
		for p, num := range w.at {
			if p == c.Path || strings.HasPrefix(p, c.Path+"/") {
				p = c.Path2 + p[len(c.Path):]
			}
			moved[p] = num
		}
		w.at = moved
	}
}

// paths are those of the record, rising.
func (w *record) paths() []string {
	var all []string
	for p := range w.at {
		all = append(all, p)
	}
	slices.Sort(all)
	return all
}

// bucketOf is a name's bucket, by chapter 8.
func bucketOf(name string) int {
	hash := uint32(7)
	for _, r := range name {
		hash = hash*31 + uint32(r)
	}
	return int(hash % 8)
}

// pathsOf are the paths that a kind of call has, and those whose entries it turns.
func pathsOf(c api.Call) (all, turned []string) {
	switch c.Kind {
	case api.CallCreate, api.CallMkdir, api.CallUnlink, api.CallRmdir:
		return []string{c.Path}, []string{c.Path}
	case api.CallOpen:
		return []string{c.Path}, nil
	case api.CallLink:
		return []string{c.Path, c.Path2}, []string{c.Path2}
	case api.CallRename:
		return []string{c.Path, c.Path2}, []string{c.Path, c.Path2}
	}
	return nil, nil
}

// turns tells whether a kind of call has keys at all.
func turns(c api.Call) bool {
	switch c.Kind {
	case api.CallRead, api.CallSize, api.CallList, api.CallStat, api.CallLinks, api.CallFsync, api.CallSync:
		return false
	case api.CallWrite:
		return c.Data != ""
	}
	return true
}

// keys are those that a call has to have which answers CodeOK.
func (w *record) keys(c api.Call) []api.Key {
	if !turns(c) {
		return nil
	}
	set := map[api.Key]bool{{Num: -1 - c.Core}: true}
	all, turned := pathsOf(c)
	for _, p := range all {
		for at := range p {
			if p[at] == '/' {
				set[api.Key{Num: w.at[p[:at]], Name: "."}] = true
			}
		}
	}
	for _, p := range turned {
		cut := strings.LastIndex(p, "/")
		set[api.Key{Num: w.at[p[:cut]], Name: fmt.Sprintf("/%d", bucketOf(p[cut+1:]))}] = true
	}
	switch {
	case c.Kind == api.CallCreate || c.Kind == api.CallMkdir:
		set[api.Key{Num: w.next(c.Core)}] = true
	case len(all) > 0:
		set[api.Key{Num: w.at[c.Path]}] = true
	default:
		set[api.Key{Num: w.open[[2]int{c.Core, c.Fd}]}] = true
	}
	return inRow(set)
}

// inRow are the keys of a set, by Num, then Name.
func inRow(set map[api.Key]bool) []api.Key {
	var all []api.Key
	for k := range set {
		all = append(all, k)
	}
	slices.SortFunc(all, func(a, b api.Key) int { return cmp.Or(a.Num-b.Num, strings.Compare(a.Name, b.Name)) })
	return all
}

// told is a list of keys as a text: a number, a colon, a name each.
func told(keys []api.Key) string {
	var words []string
	for _, k := range keys {
		words = append(words, fmt.Sprintf("%d:%s", k.Num, k.Name))
	}
	return strings.Join(words, " ")
}

// plainTouch holds each key against each, as the chapter says it.
func plainTouch(a, b []api.Key) bool {
	for _, x := range a {
		for _, y := range b {
			same := x.Name == y.Name && !(x.Name == "." && y.Name == ".")
			if x.Num == y.Num && (same || x.Name == "" || y.Name == "") {
				return true
			}
		}
	}
	return false
}

// desk is a state that calls led to, with the record of them beside it.
type desk struct {
	t *testing.T
	s api.State
	w *record
}

func newDesk(t *testing.T, cores int) *desk {
	t.Helper()
	s, e := model.New(cores)
	if e != api.OK {
		t.Fatalf("New(%d): error %d", cores, e)
	}
	return &desk{t, s, newRecord(cores)}
}

// do does a call, whatever its code, and holds its keys against the record.
func (d *desk) do(c api.Call) (api.Result, []api.Key) {
	d.t.Helper()
	keys := depend.Keys(d.s, c)
	behind, r := model.Do(d.s, c)
	var want []api.Key
	if r.Code == api.CodeOK {
		want = d.w.keys(c)
		d.w.note(c, r)
	}
	if !slices.Equal(keys, want) {
		d.t.Fatalf("%+v, code %d: keys %s, want %s, at %+v", c, r.Code, told(keys), told(want), d.s)
	}
	d.s = behind
	return r, keys
}

// ok does calls that must answer CodeOK.
func (d *desk) ok(cs ...api.Call) {
	d.t.Helper()
	for _, c := range cs {
		if r, _ := d.do(c); r.Code != api.CodeOK {
			d.t.Fatalf("%+v: code %d", c, r.Code)
		}
	}
}

// want does a call that must answer CodeOK and have these keys.
func (d *desk) want(c api.Call, want string) {
	d.t.Helper()
	r, keys := d.do(c)
	if got := told(keys); r.Code != api.CodeOK || got != want {
		d.t.Errorf("%+v, code %d: keys %s, want %s", c, r.Code, got, want)
	}
}

// none does calls that must answer a code and have no keys.
func (d *desk) none(code int, cs ...api.Call) {
	d.t.Helper()
	for _, c := range cs {
		if r, keys := d.do(c); r.Code != code || len(keys) != 0 {
			d.t.Errorf("%+v: code %d, want %d; keys %s, want none", c, r.Code, code, told(keys))
		}
	}
}

// on is a call of core 0 on paths.
func on(kind int, paths ...string) api.Call {
	c := api.Call{Kind: kind, Path: paths[0]}
	if len(paths) > 1 {
		c.Path2 = paths[1]
	}
	return c
}

// by is that call, of a core.
func by(core int, c api.Call) api.Call {
	c.Core = core
	return c
}

func create(p string) api.Call     { return on(api.CallCreate, p) }
func mkdir(p string) api.Call      { return on(api.CallMkdir, p) }
func opening(p string) api.Call    { return on(api.CallOpen, p) }
func link(p, p2 string) api.Call   { return on(api.CallLink, p, p2) }
func unlink(p string) api.Call     { return on(api.CallUnlink, p) }
func rmdir(p string) api.Call      { return on(api.CallRmdir, p) }
func rename(p, p2 string) api.Call { return on(api.CallRename, p, p2) }
func list(p string) api.Call       { return on(api.CallList, p) }
func closing(fd int) api.Call      { return api.Call{Kind: api.CallClose, Fd: fd} }

func write(fd, off int, data string) api.Call {
	return api.Call{Kind: api.CallWrite, Fd: fd, Off: off, Data: data}
}

func truncate(fd, num int) api.Call {
	return api.Call{Kind: api.CallTruncate, Fd: fd, Num: num}
}
