package commute

import (
	"cmp"
	"slices"

	"concourse/api"
	"concourse/model"
	"concourse/name"
	"concourse/path"
)

// root is the number of the directory that paths begin at.
const root = 1

// bucket is one of a directory's.
type bucket struct {
	dir, place int
}

// spot is where a path leads: its last name's bucket, the number that stands there, or 0.
type spot struct {
	bucket
	num int
}

// view is a call at a state that may be, with what was gathered of what it looks at and
// turns there.
type view struct {
	api.State
	api.Call
	answer  api.Result
	looks   map[bucket]struct{}
	turns   []bucket         // each of them is looked at too
	reached map[int]struct{} // what its paths find or go through, and what its descriptor is for
	file    int              // the file whose bytes it has, or 0
	asked   int              // the inode whose entries it asks for, or 0
	counted int              // the inode of whose entries it makes more or fewer, or 0
	emptied bool             // it leaves that inode none
}

// viewOf gathers what a call looks at and turns.
func viewOf(s api.State, c api.Call) *view {
	v := &view{State: s, Call: c, looks: map[bucket]struct{}{}, reached: map[int]struct{}{}}
	_, v.answer = model.Do(s, c)
	v.gather()
	return v
}

// gather takes in what the kind of call looks at and turns. An inode that a Create or a
// Mkdir makes is not gathered: the other call cannot have it.
func (v *view) gather() {
	switch v.Kind {
	case api.CallCreate, api.CallMkdir:
		v.turn(v.walk(v.Path))
	case api.CallUnlink, api.CallRmdir:
		at := v.walk(v.Path)
		if v.Kind == api.CallRmdir {
			v.lookAll(at.num)
		}
		v.turn(at)
		v.count(at.num)
		v.emptied = model.Links(v.State, at.num) == 1
	case api.CallLink:
		v.count(v.walk(v.Path).num)
		v.turn(v.walk(v.Path2))
	case api.CallRename:
		v.turn(v.walk(v.Path))
		v.turn(v.walk(v.Path2))
	case api.CallOpen:
		v.walk(v.Path)
	case api.CallList:
		v.lookAll(v.walk(v.Path).num)
	case api.CallStat:
		v.have(v.walk(v.Path).num)
	case api.CallLinks:
		v.asked = v.walk(v.Path).num
	case api.CallClose, api.CallRead, api.CallWrite, api.CallTruncate, api.CallSize:
		num := v.opened()
		v.reached[num] = struct{}{}
		v.have(num)
	}
}

// walk goes name by name along a path, as far as that leads, and takes in each bucket that
// a name is looked for in. It leads nowhere on from a file, nor from a name that is not there.
func (v *view) walk(p string) spot {
	names, e := path.Parse(p)
	if e != api.OK {
		return spot{}
	}
	at := spot{num: root}
	v.reached[root] = struct{}{}
	for _, text := range names {
		x := v.inode(at.num)
		if !x.Dir {
			return spot{}
		}
		at = spot{bucket{x.Num, name.Bucket(text)}, numOf(x.Entries, text)}
		v.looks[at.bucket] = struct{}{}
		v.reached[at.num] = struct{}{}
	}
	return at
}

// lookAll takes in that all buckets of what was found are looked at, if it is a directory.
func (v *view) lookAll(num int) {
	if !v.inode(num).Dir {
		return
	}
	for place := range api.Buckets {
		v.looks[bucket{num, place}] = struct{}{}
	}
}

// turn takes in that a spot's bucket is turned, if the call is done.
func (v *view) turn(at spot) {
	if v.done() {
		v.turns = append(v.turns, at.bucket)
	}
}

// count takes in that an inode has another number of entries behind the call, if it is done.
func (v *view) count(num int) {
	if v.done() {
		v.counted = num
	}
}

// have takes in that the call has the bytes of what was found, if it is a file.
func (v *view) have(num int) {
	if x := v.inode(num); !x.Dir {
		v.file = x.Num
	}
}

// done tells whether the call answers CodeOK.
func (v *view) done() bool {
	return v.answer.Code == api.CodeOK
}

// disturbs tells whether the call turns, bytes aside, what the other has to do with.
func (v *view) disturbs(other *view) bool {
	for _, at := range v.turns {
		if _, looks := other.looks[at]; looks {
			return true
		}
	}
	if v.counted == 0 {
		return false
	}
	_, reaches := other.reached[v.counted]
	return v.counted == other.asked || v.emptied && reaches
}

// inode gives the inode of a number, or the zero one: they rise.
func (v *view) inode(num int) api.Inode {
	at, is := slices.BinarySearchFunc(v.Inodes, num, func(x api.Inode, num int) int { return cmp.Compare(x.Num, num) })
	if !is {
		return api.Inode{}
	}
	return v.Inodes[at]
}

// opened tells the number that the call's descriptor is for, or 0.
func (v *view) opened() int {
	for _, d := range v.Open {
		if d.Core == v.Core && d.Fd == v.Fd {
			return d.Num
		}
	}
	return 0
}

// numOf tells the number of the entry of a name, or 0.
func numOf(entries []api.Entry, text string) int {
	at := slices.IndexFunc(entries, func(e api.Entry) bool { return e.Name == text })
	if at < 0 {
		return 0
	}
	return entries[at].Num
}
