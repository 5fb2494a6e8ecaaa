package commute

import (
	"concourse/api"
)

// span is pages of a file, from one up to ahead of another; at the zero one there are none.
type span struct {
	from, to int
}

// haveOneByte tells whether two calls have bytes of one file that one of them turns.
func haveOneByte(x, y *view) bool {
	if x.file == 0 || x.file != y.file {
		return false
	}
	if x.Kind == api.CallTruncate || y.Kind == api.CallTruncate {
		return true
	}
	return x.writesOver(y) || y.writesOver(x)
}

// writesOver tells whether a call is a Write that is done, and turns how long the file is,
// or what a page holds that the other reads or writes bytes of.
func (v *view) writesOver(other *view) bool {
	if v.Kind != api.CallWrite || !v.done() {
		return false
	}
	return v.lengthens() || v.pages().meet(other.pages())
}

// lengthens tells whether a Write that is done ends behind its file's end. One of no bytes
// does nothing, wherever it stands.
func (v *view) lengthens() bool {
	return len(v.Data) > 0 && v.Off+len(v.Data) > len(v.inode(v.file).Data)
}

// pages tells in which pages the bytes stand that a Read answers, or a Write puts down.
func (v *view) pages() span {
	count := 0
	switch {
	case v.Kind == api.CallRead:
		count = len(v.answer.Data) // beside a code there are none
	case v.Kind == api.CallWrite && v.done():
		count = len(v.Data)
	}
	if count == 0 {
		return span{}
	}
	return span{v.Off / api.PageBytes, (v.Off+count-1)/api.PageBytes + 1}
}

// meet tells whether a page is one of both.
func (p span) meet(other span) bool {
	return max(p.from, other.from) < min(p.to, other.to)
}
