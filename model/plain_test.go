package model_test

import (
	"fmt"
	"slices"
	"strings"
	"unicode/utf8"

	"concourse/api"
)

// row is a row of numbers that is the same in each run.
type row uint64

func (r *row) below(n int) int {
	*r = *r*6364136223846793005 + 1442695040888963407
	return int(uint64(*r) >> 33 % uint64(n))
}

// node is a file or a directory of the plain record.
type node struct {
	num  int
	dir  bool
	kids map[string]*node
	data []byte
}

// world is a plain record of a file system: nodes that hold each other. What nobody holds is simply not found any more.
type world struct {
	root *node
	made []int
	fds  [][4]*node // by core
}

func newWorld(cores int) *world {
	return &world{root: &node{num: 1, dir: true, kids: map[string]*node{}}, made: make([]int, cores), fds: make([][4]*node, cores)}
}

// plainName is layer 8's Check, as a call's code.
func plainName(s string) int {
	if len(s) > 12 {
		return api.ENAMETOOLONG
	}
	if s == "" || s == "." || s == ".." || strings.Contains(s, "/") || !utf8.ValidString(s) {
		return api.EINVAL
	}
	for at := range len(s) {
		if s[at] < 32 || s[at] == 127 {
			return api.EINVAL
		}
	}
	return 0
}

// plainParse is layer 11's Parse, with its Code.
func plainParse(s string) ([]string, int) {
	if len(s) > 64 {
		return nil, api.ENAMETOOLONG
	}
	if !strings.HasPrefix(s, "/") {
		return nil, api.EINVAL
	}
	if s == "/" {
		return nil, 0
	}
	names := strings.Split(s[1:], "/")
	for _, one := range names {
		if code := plainName(one); code != 0 {
			return nil, code
		}
	}
	if len(names) > 4 {
		return nil, api.ENAMETOOLONG
	}
	return names, 0
}

// plainBucket is layer 8's Bucket.
func plainBucket(s string) int {
	hash := uint64(7)
	for _, r := range []rune(s) {
		hash = (31*hash + uint64(r)) % (1 << 32)
	}
	return int(hash % 8)
}

// goDown goes from the root on.
func (w *world) goDown(names []string) (*node, int) {
	x := w.root
	for _, one := range names {
		if !x.dir {
			return nil, api.ENOTDIR
		}
		if x = x.kids[one]; x == nil {
			return nil, api.ENOENT
		}
	}
	return x, 0
}

func (w *world) find(p string) (*node, int) {
	names, code := plainParse(p)
	if code != 0 {
		return nil, code
	}
	return w.goDown(names)
}

// parent gives the directory that a path's last name is in, and that name.
func (w *world) parent(p string) (*node, string, int) {
	names, code := plainParse(p)
	if code != 0 {
		return nil, "", code
	}
	if len(names) == 0 {
		return nil, "", api.EINVAL
	}
	x, code := w.goDown(names[:len(names)-1])
	if code == 0 && !x.dir {
		code = api.ENOTDIR
	}
	return x, names[len(names)-1], code
}

// others counts a directory's names of a bucket, but for one.
func others(x *node, bucket int, but *node, butName string) int {
	count := 0
	for one := range x.kids {
		if plainBucket(one) == bucket && !(x == but && one == butName) {
			count++
		}
	}
	return count
}

// entries counts the entries of a node below x.
func entries(x, of *node) int {
	count := 0
	for _, kid := range x.kids {
		if kid == of {
			count++
		}
		count += entries(kid, of)
	}
	return count
}

// holds tells whether y is x or below it.
func holds(x, y *node) bool {
	if x == y {
		return true
	}
	for _, kid := range x.kids {
		if holds(kid, y) {
			return true
		}
	}
	return false
}

// do does a call; of an Open it takes the descriptor fd, or the least that is free, if fd is -1.
func (w *world) do(c api.Call, fd int) api.Result {
	if c.Kind < 0 || c.Kind > 16 || c.Core < 0 || c.Core >= len(w.made) {
		return api.Result{Code: api.EINVAL}
	}
	switch c.Kind {
	case api.CallCreate, api.CallMkdir:
		return api.Result{Code: w.make(c)}
	case api.CallLink:
		return api.Result{Code: w.link(c)}
	case api.CallUnlink, api.CallRmdir:
		return api.Result{Code: w.remove(c)}
	case api.CallRename:
		return api.Result{Code: w.rename(c)}
	case api.CallOpen:
		return w.open(c, fd)
	case api.CallList, api.CallStat, api.CallLinks:
		return w.ask(c)
	case api.CallSync:
		return api.Result{}
	}
	if c.Fd < 0 || c.Fd > 3 || w.fds[c.Core][c.Fd] == nil {
		return api.Result{Code: api.EBADF}
	}
	return w.onFile(c, w.fds[c.Core][c.Fd])
}

func (w *world) make(c api.Call) int {
	in, last, code := w.parent(c.Path)
	if code != 0 {
		return code
	}
	if in.kids[last] != nil {
		return api.EEXIST
	}
	if others(in, plainBucket(last), nil, "") >= 4 || w.made[c.Core] == 32 {
		return api.ENOSPC
	}
	x := &node{num: 2 + c.Core + 8*w.made[c.Core]}
	if c.Kind == api.CallMkdir {
		x.dir, x.kids = true, map[string]*node{}
	}
	w.made[c.Core]++
	in.kids[last] = x
	return 0
}

func (w *world) link(c api.Call) int {
	x, code := w.find(c.Path)
	if code != 0 {
		return code
	}
	if x.dir {
		return api.EISDIR
	}
	in, last, code := w.parent(c.Path2)
	if code != 0 {
		return code
	}
	if in.kids[last] != nil {
		return api.EEXIST
	}
	if others(in, plainBucket(last), nil, "") >= 4 {
		return api.ENOSPC
	}
	in.kids[last] = x
	return 0
}

func (w *world) remove(c api.Call) int {
	in, last, code := w.parent(c.Path)
	if code != 0 {
		return code
	}
	x := in.kids[last]
	switch {
	case x == nil:
		return api.ENOENT
	case x.dir && c.Kind == api.CallUnlink:
		return api.EISDIR
	case !x.dir && c.Kind == api.CallRmdir:
		return api.ENOTDIR
	case len(x.kids) > 0:
		return api.ENOTEMPTY
	}
	delete(in.kids, last)
	return 0
}

func (w *world) rename(c api.Call) int {
	in, last, code := w.parent(c.Path)
	if code != 0 {
		return code
	}
	x := in.kids[last]
	if x == nil {
		return api.ENOENT
	}
	in2, last2, code := w.parent(c.Path2)
	if code != 0 {
		return code
	}
	if x.dir && holds(x, in2) {
		return api.EINVAL
	}
	if in2.kids[last2] != nil {
		return api.EEXIST
	}
	if others(in2, plainBucket(last2), in, last) >= 4 {
		return api.ENOSPC
	}
	delete(in.kids, last)
	in2.kids[last2] = x
	return 0
}

func (w *world) open(c api.Call, fd int) api.Result {
	x, code := w.find(c.Path)
	if code != 0 {
		return api.Result{Code: code}
	}
	if x.dir {
		return api.Result{Code: api.EISDIR}
	}
	own := &w.fds[c.Core]
	least := slices.Index(own[:], nil)
	if least < 0 {
		return api.Result{Code: api.EMFILE}
	}
	if fd < 0 {
		fd = least
	}
	own[fd] = x
	return api.Result{Fd: fd}
}

// ask does the calls on a path that turn nothing.
func (w *world) ask(c api.Call) api.Result {
	x, code := w.find(c.Path)
	if code != 0 {
		return api.Result{Code: code}
	}
	switch {
	case c.Kind == api.CallStat && x.dir:
		return api.Result{Dir: true}
	case c.Kind == api.CallStat:
		return api.Result{Num: len(x.data)}
	case c.Kind == api.CallLinks && x.dir:
		return api.Result{Code: api.EISDIR}
	case c.Kind == api.CallLinks:
		return api.Result{Num: entries(w.root, x)}
	case !x.dir:
		return api.Result{Code: api.ENOTDIR}
	}
	return api.Result{Names: sortedKids(x)}
}

func sortedKids(x *node) []string {
	var names []string
	for one := range x.kids {
		names = append(names, one)
	}
	slices.Sort(names)
	return names
}

// onFile does the calls on a descriptor.
func (w *world) onFile(c api.Call, x *node) api.Result {
	wrong := func(n int) bool { return n < 0 || n > 256 }
	switch c.Kind {
	case api.CallClose:
		w.fds[c.Core][c.Fd] = nil
	case api.CallRead:
		if wrong(c.Off) || wrong(c.Num) {
			return api.Result{Code: api.EINVAL}
		}
		var read []byte
		for at := c.Off; at < c.Off+c.Num && at < len(x.data); at++ {
			read = append(read, x.data[at])
		}
		return api.Result{Data: string(read)}
	case api.CallWrite:
		if wrong(c.Off) || len(c.Data) > 256 {
			return api.Result{Code: api.EINVAL}
		}
		if c.Off+len(c.Data) > 256 {
			return api.Result{Code: api.ENOSPC}
		}
		for at := range len(c.Data) {
			for len(x.data) <= c.Off+at {
				x.data = append(x.data, 0)
			}
			x.data[c.Off+at] = c.Data[at]
		}
		return api.Result{Num: len(c.Data)}
	case api.CallTruncate:
		if wrong(c.Num) {
			return api.Result{Code: api.EINVAL}
		}
		for len(x.data) < c.Num {
			x.data = append(x.data, 0)
		}
		x.data = x.data[:c.Num:c.Num]
	case api.CallSize:
		return api.Result{Num: len(x.data)}
	}
	return api.Result{}
}

// gather puts a node and those below it by their numbers.
func gather(x *node, all map[int]*node) {
	all[x.num] = x
	for _, kid := range x.kids {
		gather(kid, all)
	}
}

// nodes are those that are found, or are open, by their numbers.
func (w *world) nodes() map[int]*node {
	all := map[int]*node{}
	gather(w.root, all)
	for _, own := range w.fds {
		for _, x := range own {
			if x != nil {
				gather(x, all)
			}
		}
	}
	return all
}

// state is the record as a state.
func (w *world) state() api.State {
	s := api.State{Made: slices.Clone(w.made)}
	all := w.nodes()
	for num := range 258 {
		x := all[num]
		if x == nil {
			continue
		}
		one := api.Inode{Num: num, Dir: x.dir, Data: string(x.data)}
		for _, text := range sortedKids(x) {
			one.Entries = append(one.Entries, api.Entry{Name: text, Num: x.kids[text].num})
		}
		s.Inodes = append(s.Inodes, one)
	}
	for core, own := range w.fds {
		for fd, x := range own {
			if x != nil {
				s.Open = append(s.Open, api.Desc{Core: core, Fd: fd, Num: x.num})
			}
		}
	}
	return s
}

// paths are those of all nodes that at most so many names lead to, the root's first, and no row of them hangs on a map.
func (w *world) paths(depth int) []string {
	all := []string{"/"}
	var below func(x *node, ahead string, left int)
	below = func(x *node, ahead string, left int) {
		if left == 0 {
			return
		}
		for _, one := range sortedKids(x) {
			all = append(all, ahead+"/"+one)
			below(x.kids[one], ahead+"/"+one, left-1)
		}
	}
	below(w.root, "", depth)
	return all
}

// show is a state as a text; an empty list and nil are one.
func show(s api.State) string {
	var text strings.Builder
	for _, x := range s.Inodes {
		fmt.Fprintf(&text, "%d %t %q:", x.Num, x.Dir, x.Data)
		for _, e := range x.Entries {
			fmt.Fprintf(&text, " %q %d", e.Name, e.Num)
		}
		text.WriteString("\n")
	}
	fmt.Fprintf(&text, "%v\n%v\n", s.Open, s.Made)
	return text.String()
}

// showResult is a result as a text.
func showResult(r api.Result) string {
	return fmt.Sprintf("code %d, fd %d, num %d, dir %t, data %q, names %q", r.Code, r.Fd, r.Num, r.Dir, r.Data, r.Names)
}

// deepCopy gives a state that shares no list with s.
func deepCopy(s api.State) api.State {
	s.Inodes, s.Open, s.Made = slices.Clone(s.Inodes), slices.Clone(s.Open), slices.Clone(s.Made)
	for at := range s.Inodes {
		s.Inodes[at].Entries = slices.Clone(s.Inodes[at].Entries)
	}
	return s
}
