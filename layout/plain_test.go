package layout_test

import (
	"encoding/binary"
	"fmt"
	"hash/fnv"
	"io"
	"slices"
	"strings"
	"testing"

	"concourse/api"
	"concourse/layout"
	"concourse/model"
)

// row is a row of numbers that is the same in each run.
type row uint64

func (r *row) below(n int) int {
	*r = *r*6364136223846793005 + 1442695040888963407
	return int(uint64(*r) >> 33 % uint64(n))
}

// pick takes one of several.
func pick[T any](r *row, of ...T) T {
	return of[r.below(len(of))]
}

// num is a number as bytes.
func num(n int) string {
	return string(binary.AppendUvarint(nil, uint64(n)))
}

// text is a text as bytes.
func text(s string) string {
	return num(len(s)) + s
}

// file and directory are inodes as bytes; entry is an entry.
func file(n int, data string) string {
	return num(n) + "\x00" + text(data)
}

func directory(n int, entries ...string) string {
	return num(n) + "\x01" + num(len(entries)) + strings.Join(entries, "")
}

func entry(name string, n int) string {
	return text(name) + num(n)
}

// made is a Made as bytes.
func made(counts ...int) string {
	all := num(len(counts))
	for _, count := range counts {
		all += num(count)
	}
	return all
}

// body is what stands ahead of the sum.
func body(made string, inodes ...string) string {
	return "CNC1" + made + num(len(inodes)) + strings.Join(inodes, "")
}

// summed gives bytes with their sum behind them.
func summed(b string) string {
	h := fnv.New64a()
	io.WriteString(h, b)
	return b + string(h.Sum(nil))
}

// plainBody tells all inodes of a state, whether or not it may be, from the last to the first.
func plainBody(s api.State) string {
	var inodes []string
	for _, x := range slices.Backward(s.Inodes) {
		one := file(x.Num, x.Data)
		if x.Dir {
			var entries []string
			for _, e := range x.Entries {
				entries = append(entries, entry(e.Name, e.Num))
			}
			one = directory(x.Num, entries...)
		}
		inodes = append(inodes, one)
	}
	slices.Reverse(inodes)
	return body(made(s.Made...), inodes...)
}

// kept is a state that may be, without Open and what is open alone.
func kept(s api.State) api.State {
	named := map[int]bool{1: true}
	for _, x := range s.Inodes {
		for _, e := range x.Entries {
			named[e.Num] = true
		}
	}
	left := api.State{Made: s.Made}
	for _, x := range s.Inodes {
		if named[x.Num] {
			left.Inodes = append(left.Inodes, x)
		}
	}
	return left
}

// plainRead reads a body without looking at how its numbers are written.
func plainRead(b string) (s api.State, ok bool) {
	in := strings.NewReader(b)
	ok = true
	next := func(most uint64) int {
		n, e := binary.ReadUvarint(in)
		if e != nil || n > most {
			ok, n = false, 0
		}
		return int(n)
	}
	take := func(size int) string {
		all := make([]byte, size)
		if _, e := io.ReadFull(in, all); e != nil {
			ok = false
		}
		return string(all)
	}
	if take(4) != "CNC1" {
		return s, false
	}
	for left := next(8); left > 0 && ok; left-- {
		s.Made = append(s.Made, next(1<<31-1))
	}
	for left := next(1024); left > 0 && ok; left-- {
		x := api.Inode{Num: next(1<<31 - 1), Dir: next(1) == 1}
		if !x.Dir {
			x.Data = take(next(256))
		} else {
			for left := next(64); left > 0 && ok; left-- {
				name := take(next(12))
				x.Entries = append(x.Entries, api.Entry{Name: name, Num: next(1<<31 - 1)})
			}
		}
		s.Inodes = append(s.Inodes, x)
	}
	return s, ok && in.Len() == 0
}

// plainGet is Get by another way: what was read has to be written as it stood.
func plainGet(b string) (api.State, api.Errno) {
	if len(b) < 13 || len(b) > 65536 {
		return api.State{}, api.ErrLayoutForm
	}
	front := b[:len(b)-8]
	if summed(front) != b {
		return api.State{}, api.ErrLayoutSum
	}
	s, ok := plainRead(front)
	if !ok || plainBody(s) != front {
		return api.State{}, api.ErrLayoutForm
	}
	if !model.May(s) {
		return api.State{}, api.ErrLayoutState
	}
	return s, api.OK
}

// show is a state as a text: an empty list and nil are one.
func show(s api.State) string {
	return fmt.Sprintf("%+v", s)
}

// shortened keeps what is told of a failure short.
func shortened(b string) string {
	if len(b) > 200 {
		return fmt.Sprintf("%q.. (%d bytes)", b[:200], len(b))
	}
	return fmt.Sprintf("%q", b)
}

// wantPut fails unless Put writes these bytes, and Size counts them.
func wantPut(t *testing.T, s api.State, want string) {
	t.Helper()
	got, e := layout.Put(s)
	if e != api.OK || got != want {
		t.Fatalf("Put: %s, error %d, want %s", shortened(got), e, shortened(want))
	}
	if size := layout.Size(s); size != len(want) {
		t.Fatalf("Size: %d, want %d", size, len(want))
	}
}

// wantGet fails unless Get of bytes gives a state, or an error with nothing beside it.
func wantGet(t *testing.T, b string, want api.State, wantE api.Errno) {
	t.Helper()
	got, e := layout.Get(b)
	if e != wantE {
		t.Fatalf("Get(%s): error %d, want %d", shortened(b), e, wantE)
	}
	if e != api.OK && (got.Made != nil || got.Inodes != nil || got.Open != nil) {
		t.Fatalf("Get(%s): a state beside error %d", shortened(b), e)
	}
	if show(got) != show(want) {
		t.Fatalf("Get(%s): %s, want %s", shortened(b), show(got), show(want))
	}
}

// wantBack fails unless Put writes what the chapter tells, and Get gives it back.
func wantBack(t *testing.T, s api.State) {
	t.Helper()
	b := summed(plainBody(kept(s)))
	wantPut(t, s, b)
	wantGet(t, b, kept(s), api.OK)
}
