package image

import (
	"strings"

	"concourse/api"
)

// What fields may come to, whether or not a state may have so much.
const (
	maxNumber  = 1<<31 - 1
	maxParts   = 8
	maxInodes  = 1024
	maxEntries = 64
)

// reader reads fields, one behind the other. Behind a wrong one nothing is left, and all
// that it reads is zeros, so that who reads need not ask field by field.
type reader struct {
	left  string // the bytes that are not read yet
	wrong bool
}

func (r *reader) fail() {
	r.left, r.wrong = "", true
}

// ended tells whether all fields were right, and no bytes are behind them.
func (r *reader) ended() bool {
	return !r.wrong && r.left == ""
}

// bytes reads so many bytes as they stand.
func (r *reader) bytes(size int) string {
	if size > len(r.left) {
		r.fail()
		return ""
	}
	bytes := r.left[:size]
	r.left = r.left[size:]
	return bytes
}

// part reads a part of a number: its bits, and whether another is behind it.
func (r *reader) part() (uint64, bool) {
	b := r.bytes(1)
	if b == "" {
		return 0, false
	}
	return uint64(b[0] % more), b[0] >= more
}

// number reads a number that is not above a limit.
func (r *reader) number(limit uint64) int {
	value := uint64(0)
	for at := range maxParts {
		bits, goesOn := r.part()
		value |= bits << (partBits * at)
		if goesOn {
			continue
		}
		if value > limit || bits == 0 && at > 0 { // a last part of 0 is one too many
			break
		}
		return int(value)
	}
	r.fail()
	return 0
}

// text reads a text of its own, which does not lie on the bytes that are read.
func (r *reader) text(limit uint64) string {
	return strings.Clone(r.bytes(r.number(limit)))
}

// readList reads how many there are, and each.
func readList[T any](r *reader, limit uint64, read func() T) []T {
	var all []T
	for range r.number(limit) {
		all = append(all, read())
	}
	return all
}

// state is a state that is read, field by field.
type state struct {
	reader
	api.State
}

func (x *state) read() {
	if x.bytes(len(head)) != head {
		x.fail()
	}
	x.Made = readList(&x.reader, api.MaxCores, x.num)
	x.Inodes = readList(&x.reader, maxInodes, x.inode)
}

// num reads a number with no limit of its own.
func (x *state) num() int {
	return x.number(maxNumber)
}

func (x *state) inode() api.Inode {
	num := x.num()
	if x.number(kindDirectory) == kindDirectory {
		return api.Inode{Num: num, Dir: true, Entries: readList(&x.reader, maxEntries, x.entry)}
	}
	return api.Inode{Num: num, Data: x.text(api.MaxFile)}
}

func (x *state) entry() api.Entry {
	name := x.text(api.MaxName)
	return api.Entry{Name: name, Num: x.num()}
}
