package check

import (
	"slices"

	"concourse/api"
	"concourse/inum"
	"concourse/name"
)

// The numbers of inodes.
const (
	root  = 1
	first = 2 // the least that a core is given (chapter 10)
)

// look is a look at a state: what of it is asked for again and again, and what was found.
type look struct {
	api.State
	place   map[int]int // of each number where its inode stands, of several the first
	entries map[int]int // of each number how many entries of directories have it
	fds     map[int]int // of each number how many descriptors have it
	found   []bool      // of each inode whether it is found from the root on
	told    findings
}

func newLook(s api.State) *look {
	x := &look{State: s, place: map[int]int{}, entries: map[int]int{}, fds: map[int]int{}, found: make([]bool, len(s.Inodes))}
	for at, one := range s.Inodes {
		if !x.isThere(one.Num) {
			x.place[one.Num] = at
		}
		for _, e := range entriesOf(one) {
			x.entries[e.Num]++
		}
	}
	for _, d := range s.Open {
		x.fds[d.Num]++
	}
	x.walk()
	return x
}

// entriesOf gives the entries that count: those of a directory.
func entriesOf(one api.Inode) []api.Entry {
	if one.Dir {
		return one.Entries
	}
	return nil
}

func (x *look) isThere(num int) bool {
	_, there := x.place[num]
	return there
}

// walk finds inodes from the root on.
func (x *look) walk() {
	var ahead []int
	find := func(num int) {
		if at, there := x.place[num]; there && !x.found[at] {
			x.found[at] = true
			ahead = append(ahead, at)
		}
	}
	for find(root); len(ahead) > 0; {
		last := len(ahead) - 1
		one := x.Inodes[ahead[last]]
		ahead = ahead[:last]
		for _, e := range entriesOf(one) {
			find(e.Num)
		}
	}
}

// nums looks at the row of the inodes.
func (x *look) nums() {
	if len(x.Inodes) == 0 || x.Inodes[0].Num != root || !x.Inodes[0].Dir {
		x.told.add(badNum, root, "")
	}
	for at, one := range x.Inodes {
		if one.Num < root || at > 0 && one.Num <= x.Inodes[at-1].Num {
			x.told.add(badNum, one.Num, "")
		}
	}
}

// inodes looks at what each inode has.
func (x *look) inodes() {
	for _, one := range x.Inodes {
		if one.Dir && one.Data != "" || !one.Dir && len(one.Entries) > 0 || len(one.Data) > api.MaxFile {
			x.told.add(badContent, one.Num, "")
		}
		x.names(one)
	}
}

// names looks at a directory's entries.
func (x *look) names(one api.Inode) {
	var slots [api.Buckets]int
	entries := entriesOf(one)
	for at, e := range entries {
		if !x.isThere(e.Num) || e.Num == root {
			x.told.add(badEntry, one.Num, e.Name)
		}
		if !name.May(e.Name) || at > 0 && e.Name <= entries[at-1].Name {
			x.told.add(badName, one.Num, e.Name)
		}
		slots[name.Bucket(e.Name)]++
	}
	if slices.Max(slots[:]) > api.MaxSlots {
		x.told.add(badBucket, one.Num, "")
	}
}

// holds looks at how each inode is held: by entries, by a way from the root on, or open.
func (x *look) holds() {
	for at, one := range x.Inodes {
		if one.Dir && one.Num != root && x.entries[one.Num] != 1 {
			x.told.add(badLinks, one.Num, "")
		}
		isOpen := !one.Dir && x.fds[one.Num] > 0
		if !x.found[at] && !isOpen {
			x.told.add(badPlace, one.Num, "")
		}
	}
}

// made looks at what the cores made, and whether the inodes are of it.
func (x *look) made() {
	if len(x.Made) < 1 || len(x.Made) > api.MaxCores {
		x.told.add(badMade, -1, "")
	}
	for core, count := range x.Made {
		if count < 0 || count > api.MaxMade {
			x.told.add(badMade, core, "")
		}
	}
	for _, one := range x.Inodes {
		if one.Num != root && !x.isGiven(one.Num) {
			x.told.add(badMade, one.Num, "")
		}
	}
}

// isGiven tells whether a core was given a number. Whatever Made says, none is given
// more than MaxMade.
func (x *look) isGiven(num int) bool {
	core := inum.Core(num)
	if core < 0 || core >= len(x.Made) {
		return false
	}
	return (num-first)/api.MaxCores < min(x.Made[core], api.MaxMade)
}

// open looks at the descriptors.
func (x *look) open() {
	for at, d := range x.Open {
		if !x.isFile(d.Num) || !x.mayHold(d) || at > 0 && !isAhead(x.Open[at-1], d) {
			x.told.add(badDesc, d.Num, "")
		}
	}
}

func (x *look) isFile(num int) bool {
	at, there := x.place[num]
	return there && !x.Inodes[at].Dir
}

// mayHold tells whether there is such a descriptor of such a core.
func (x *look) mayHold(d api.Desc) bool {
	return d.Core >= 0 && d.Core < len(x.Made) && d.Fd >= 0 && d.Fd < api.MaxFds
}

// isAhead tells whether a descriptor stands ahead of another one.
func isAhead(a, b api.Desc) bool {
	return a.Core < b.Core || a.Core == b.Core && a.Fd < b.Fd
}
