package image

import (
	"concourse/api"
)

// A number's parts: each but the last has more beside its bits.
const (
	partBits = 7
	more     = 1 << partBits
)

// The kinds of inodes.
const (
	kindFile      = 0
	kindDirectory = 1
)

// writer writes fields, one behind the other.
type writer struct {
	out []byte
}

// bytes writes bytes as they stand.
func (w *writer) bytes(s string) {
	w.out = append(w.out, s...)
}

// number writes a number from 0 on.
func (w *writer) number(n int) {
	for ; n >= more; n >>= partBits {
		w.out = append(w.out, byte(n%more+more))
	}
	w.out = append(w.out, byte(n))
}

func (w *writer) text(s string) {
	w.number(len(s))
	w.bytes(s)
}

// writeList writes how many there are, and each.
func writeList[T any](w *writer, all []T, write func(one T)) {
	w.number(len(all))
	for _, one := range all {
		write(one)
	}
}

func (w *writer) state(s api.State) {
	w.bytes(head)
	writeList(w, s.Made, w.number)
	writeList(w, s.Inodes, w.inode)
}

func (w *writer) inode(x api.Inode) {
	w.number(x.Num)
	if x.Dir {
		w.number(kindDirectory)
		writeList(w, x.Entries, w.entry)
		return
	}
	w.number(kindFile)
	w.text(x.Data)
}

func (w *writer) entry(e api.Entry) {
	w.text(e.Name)
	w.number(e.Num)
}
