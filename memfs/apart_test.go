package memfs_test

import (
	"strings"

	"concourse/api"
	"concourse/model"
	"concourse/name"
	"concourse/path"
	"concourse/shape"
)

// This file is what chapter 24 says of Commute and Apart, put down plainly. Where its words
// leave a choice, more calls are apart here: a Close has no file's bytes, and a Read has
// those bytes alone that it answers.

// commute tells whether two calls answer the same and leave one state, in both rows.
func commute(s api.State, a, b api.Call) bool {
	behindA, a1 := model.Do(s, a)
	one, b2 := model.Do(behindA, b)
	behindB, b1 := model.Do(s, b)
	two, a2 := model.Do(behindB, a)
	return showResult(a1) == showResult(a2) && showResult(b1) == showResult(b2) && shape.Same(one, two)
}

// bucketOf is a directory's bucket.
type bucketOf struct {
	dir, bucket int
}

// look is what a call looks at and turns.
type look struct {
	call   api.Call
	ok     bool // it answers CodeOK
	looks  map[bucketOf]struct{}
	turns  map[bucketOf]struct{}
	inodes map[int]struct{} // that its paths and its descriptor have, found or gone through
	bytes  int              // the file whose bytes it has, or 0
	from   int              // these bytes, if it is a Read or a Write that answers CodeOK
	to     int
	longer bool // it lengthens the file
	counts int  // the inode whose entries it counts, or 0
	last   int  // the inode that it leaves without entries, or 0
	asks   int  // the inode whose entries it asks for, or 0
}

// inodeOf gives an inode, or the zero one, if it is not there.
func inodeOf(s api.State, num int) api.Inode {
	for _, x := range s.Inodes {
		if x.Num == num {
			return x
		}
	}
	return api.Inode{}
}

// numOf tells the number that a core's descriptor is for, or 0.
func numOf(s api.State, core, fd int) int {
	for _, d := range s.Open {
		if d.Core == core && d.Fd == fd {
			return d.Num
		}
	}
	return 0
}

// walk goes along a path, and tells its last bucket, and the number found, or 0.
func (l *look) walk(s api.State, p string) (bucketOf, int) {
	names, e := path.Parse(p)
	if e != api.OK {
		return bucketOf{}, 0
	}
	num, last := 1, bucketOf{}
	l.inodes[num] = struct{}{}
	for _, text := range names {
		if !inodeOf(s, num).Dir {
			return bucketOf{}, 0
		}
		last = bucketOf{num, name.Bucket(text)}
		l.looks[last] = struct{}{}
		num = 0
		for _, e := range entriesOf(s, last.dir) {
			if e.Name == text {
				num = e.Num
			}
		}
		l.inodes[num] = struct{}{}
	}
	return last, num
}

// all looks at all buckets of a directory.
func (l *look) all(dir int) {
	for bucket := range api.Buckets {
		l.looks[bucketOf{dir, bucket}] = struct{}{}
	}
}

// lookOf tells what a call looks at and turns, at s.
func lookOf(s api.State, c api.Call) *look {
	behind, r := model.Do(s, c)
	l := &look{call: c, ok: r.Code == api.CodeOK, looks: map[bucketOf]struct{}{}, turns: map[bucketOf]struct{}{}, inodes: map[int]struct{}{}}
	switch c.Kind {
	case api.CallCreate, api.CallMkdir:
		last, _ := l.walk(s, c.Path)
		l.turn(last)
		if l.ok {
			l.counts, _ = model.Find(behind, c.Path)
		}
	case api.CallUnlink, api.CallRmdir:
		last, num := l.walk(s, c.Path)
		l.turn(last)
		if c.Kind == api.CallRmdir && inodeOf(s, num).Dir {
			l.all(num)
		}
		if l.ok {
			l.counts = num
			if model.Links(s, num) == 1 {
				l.last = num
			}
		}
	case api.CallLink:
		_, num := l.walk(s, c.Path)
		last, _ := l.walk(s, c.Path2)
		l.turn(last)
		if l.ok {
			l.counts = num
		}
	case api.CallRename:
		last, _ := l.walk(s, c.Path)
		l.turn(last)
		last, _ = l.walk(s, c.Path2)
		l.turn(last)
	case api.CallOpen, api.CallList, api.CallStat, api.CallLinks:
		_, num := l.walk(s, c.Path)
		l.found(s, num)
	default:
		l.opened(s, r)
	}
	return l
}

// turn turns a bucket, if the call answers CodeOK.
func (l *look) turn(at bucketOf) {
	if l.ok {
		l.turns[at] = struct{}{}
	}
}

// found is what a call that turns nothing has of what its path leads to.
func (l *look) found(s api.State, num int) {
	x := inodeOf(s, num)
	switch {
	case l.call.Kind == api.CallList && x.Dir:
		l.all(num)
	case l.call.Kind == api.CallStat && !x.Dir:
		l.bytes = num
	case l.call.Kind == api.CallLinks:
		l.asks = num
	}
}

// opened is what a call has of what its descriptor is for.
func (l *look) opened(s api.State, r api.Result) {
	num := numOf(s, l.call.Core, l.call.Fd)
	l.inodes[num] = struct{}{}
	switch l.call.Kind {
	case api.CallRead:
		l.bytes, l.from, l.to = num, l.call.Off, l.call.Off+len(r.Data)
	case api.CallWrite:
		l.bytes, l.from, l.to = num, l.call.Off, l.call.Off+r.Num
		l.longer = r.Num > 0 && l.to > len(inodeOf(s, num).Data)
	case api.CallTruncate, api.CallSize:
		l.bytes = num
	}
}

// apart tells whether chapter 24's Apart is true of two calls.
func apart(s api.State, a, b api.Call) bool {
	if a.Core == b.Core || max(a.Kind, b.Kind) >= api.CallFsync {
		return false
	}
	x, y := lookOf(s, a), lookOf(s, b)
	return x.freeOf(y) && y.freeOf(x) && !x.sharesBytes(y)
}

// freeOf tells whether nothing that a call turns is another's, but for bytes.
func (l *look) freeOf(other *look) bool {
	for at := range l.turns {
		_, looks := other.looks[at]
		_, turns := other.turns[at]
		if looks || turns {
			return false
		}
	}
	if l.counts != 0 && l.counts == other.asks {
		return false
	}
	_, has := other.inodes[l.last]
	return l.last == 0 || !has
}

// sharesBytes tells whether two calls have bytes of one file that one of them turns.
func (l *look) sharesBytes(other *look) bool {
	if l.bytes == 0 || l.bytes != other.bytes {
		return false
	}
	if l.call.Kind == api.CallTruncate || other.call.Kind == api.CallTruncate || l.longer || other.longer {
		return true
	}
	if l.call.Kind != api.CallWrite && other.call.Kind != api.CallWrite || l.from >= l.to || other.from >= other.to {
		return false
	}
	return l.from/api.PageBytes <= (other.to-1)/api.PageBytes && other.from/api.PageBytes <= (l.to-1)/api.PageBytes
}

// kindName is what a kind of calls is named.
func kindName(kind int) string {
	return strings.Fields("Create Mkdir Open Close Read Write Truncate Size Link Unlink Rmdir Rename List Stat Links Fsync Sync")[kind]
}
