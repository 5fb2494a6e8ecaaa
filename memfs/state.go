package memfs

import (
	"cmp"
	"maps"
	"slices"
	"strings"

	"concourse/api"
	"concourse/name"
)

// anyCore is in whose name the words are filled and read while no call is under way.
const anyCore = 0

// fill lets the words be a state that may be.
func (f *Fs) fill(s api.State) {
	v := f.by(anyCore)
	for _, x := range s.Inodes {
		if x.Dir {
			v.fillEntries(s, x)
		} else {
			v.fillBytes(x)
		}
	}
	for core, made := range s.Made {
		for range made {
			f.nums.Next(core)
		}
		f.fillOpen(core, s.Open)
	}
	f.forgetTraces()
}

// fillEntries fills a directory's buckets.
func (v view) fillEntries(s api.State, x api.Inode) {
	var buckets [api.Buckets]bucket
	for _, e := range x.Entries {
		at, _ := slices.BinarySearchFunc(s.Inodes, e.Num, func(other api.Inode, num int) int {
			return cmp.Compare(other.Num, num)
		})
		dir := s.Inodes[at].Dir
		e.Name = strings.Clone(e.Name)
		own := &buckets[name.Bucket(e.Name)]
		*own = append(*own, entry{e, dir})
		if !dir {
			v.count(e.Num, 1)
		}
	}
	for number, own := range buckets {
		if len(own) > 0 {
			v.let(wordOf(x.Num, bucketsOf+number), own)
		}
	}
}

// fillBytes fills a file's pages.
func (v view) fillBytes(x api.Inode) {
	v.setLength(x.Num, len(x.Data))
	for _, own := range (span{0, len(x.Data)}).pages() {
		var p page
		copy(p[:], x.Data[own.from:own.to])
		v.let(wordOfPage(x.Num, own.from), p)
	}
}

// fillOpen lets a core have its descriptors. A core is given them from 0 on, so it gets
// all of them, and those that it has not it closes.
func (f *Fs) fillOpen(core int, open []api.Desc) {
	for fd := range api.MaxFds {
		at := slices.IndexFunc(open, func(d api.Desc) bool { return d.Core == core && d.Fd == fd })
		if at >= 0 {
			f.fds.Open(core, open[at].Num)
		} else {
			f.fds.Open(core, root)
			defer f.fds.Close(core, fd)
		}
	}
}

// forgetTraces lets no core have touched a word.
func (f *Fs) forgetTraces() {
	for core := range f.processes {
		f.words.Clear(core)
	}
}

// read tells the state that the words are, while no call is under way.
func (f *Fs) read() api.State {
	defer f.forgetTraces()
	var s api.State
	for core := range f.processes {
		made, _ := f.words.Load(core, numsAt+core)
		s.Made = append(s.Made, made)
		s.Open = append(s.Open, f.fds.List(core)...)
	}
	s.Inodes = f.by(anyCore).readInodes(s.Open)
	return s
}

// readInodes tells the inodes that are found from the root on, and those that are open.
func (v view) readInodes(open []api.Desc) []api.Inode {
	all := map[int]api.Inode{}
	for _, d := range open {
		all[d.Num] = v.readFile(d.Num)
	}
	for dirs := []int{root}; len(dirs) > 0; dirs = dirs[1:] {
		x := api.Inode{Num: dirs[0], Dir: true}
		for _, own := range v.entries(x.Num) {
			x.Entries = append(x.Entries, api.Entry{Name: strings.Clone(own.Name), Num: own.Num})
			if own.dir {
				dirs = append(dirs, own.Num)
			} else {
				all[own.Num] = v.readFile(own.Num)
			}
		}
		all[x.Num] = x
	}
	return slices.SortedFunc(maps.Values(all), func(a, b api.Inode) int { return cmp.Compare(a.Num, b.Num) })
}

// readFile tells a file.
func (v view) readFile(num int) api.Inode {
	return api.Inode{Num: num, Data: v.text(num, span{0, v.length(num)})}
}
