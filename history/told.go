package history

import (
	"slices"
	"strconv"

	"concourse/api"
)

// What an inode is told as.
const (
	fileInode = iota
	dirInode
)

// text is what was told: numbers and texts, each such that its end is seen.
type text []byte

func (t *text) number(n int) {
	*t = append(strconv.AppendInt(*t, int64(n), 10), ' ')
}

func (t *text) string(s string) {
	t.number(len(s))
	*t = append(*t, s...)
}

func (t *text) inode(x api.Inode) {
	if !x.Dir {
		t.number(fileInode)
		t.number(x.Num)
		t.string(x.Data)
		return
	}
	t.number(dirInode)
	t.number(x.Num)
	t.number(len(x.Entries))
	for _, e := range x.Entries {
		t.string(e.Name)
		t.number(e.Num)
	}
}

// told tells a state behind a row: descriptors, and the inodes that are unlike in the
// first state, since a few calls turn little of a great one. What is gone has no entry and
// no descriptor, and what was made hangs on who stands, so that neither need be told.
func (h *history) told(s api.State) string {
	var t text
	t.number(len(s.Open))
	for _, d := range s.Open {
		t.number(d.Core)
		t.number(d.Fd)
		t.number(d.Num)
	}
	was := h.first.Inodes
	for _, x := range s.Inodes {
		for len(was) > 0 && was[0].Num < x.Num {
			was = was[1:]
		}
		if len(was) == 0 || !isOne(was[0], x) {
			t.inode(x)
		}
	}
	return string(t)
}

// isOne tells whether two inodes are one.
func isOne(a, b api.Inode) bool {
	return a.Num == b.Num && a.Dir == b.Dir && a.Data == b.Data && slices.Equal(a.Entries, b.Entries)
}
