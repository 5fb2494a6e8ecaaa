package memfs_test

import (
	"math"
	"strings"
	"testing"

	"concourse/api"
	"concourse/model"
)

// row is a row of numbers that is the same in each run.
type row uint64

func (r *row) below(n int) int {
	*r = *r*6364136223846793005 + 1442695040888963407
	return int(uint64(*r) >> 33 % uint64(n))
}

// oneOf gives one of several.
func oneOf[T any](r *row, all ...T) T {
	return all[r.below(len(all))]
}

// someName is a name, often of one bucket (a, i, q, y, A, I have it), and at times one that no name may be.
func (r *row) someName() string {
	if r.below(30) == 0 {
		return oneOf(r, "", ".", "..", "1234567890123", "a\x01", "\xff", "a\x7f")
	}
	return oneOf(r, "a", "i", "q", "y", "A", "I", "Q", "a", "i", "b", "c", "ab", "é", "日本", "123456789012")
}

// somePath is mostly a path that leads somewhere, or on from there by one name.
func (r *row) somePath(s api.State) string {
	p, num := "", 1
	for range r.below(4) {
		entries := entriesOf(s, num)
		if len(entries) == 0 {
			break
		}
		e := entries[r.below(len(entries))]
		p, num = p+"/"+e.Name, e.Num
	}
	switch r.below(9) {
	case 0, 1, 2:
		return p + "/" + r.someName()
	case 3:
		return "/" + r.someName()
	case 4:
		if r.below(3) == 0 {
			return p + "/" + r.someName() + "/" + r.someName()
		}
		if r.below(8) == 0 {
			return oneOf(r, "", "a", "//", p+"/", strings.Repeat("/a", 5), strings.Repeat("/12345678", 8))
		}
	}
	if p == "" {
		return "/"
	}
	return p
}

// entriesOf gives an inode's entries.
func entriesOf(s api.State, num int) []api.Entry {
	for _, x := range s.Inodes {
		if x.Num == num {
			return x.Entries
		}
	}
	return nil
}

// someSize is a place or a length, mostly one that may be, and often one at which a page, or half a file, ends.
func (r *row) someSize() int {
	switch r.below(8) {
	case 0:
		return oneOf(r, -1, 257, math.MinInt, math.MaxInt)
	case 1, 2, 3:
		return oneOf(r, 0, 1, 15, 16, 17, 127, 128, 129, 144, 240, 255, 256)
	}
	return r.below(257)
}

// someData is up to 256 bytes, and at times more.
func (r *row) someData() string {
	count := oneOf(r, 0, 1, r.below(20), r.below(140), r.below(257), r.below(257), 256, 257)
	data := make([]byte, count)
	for at := range data {
		data[at] = byte(r.below(256))
	}
	return string(data)
}

// someCall is any call of a core, with fields that its kind does not use filled too.
func (r *row) someCall(s api.State, core int) api.Call {
	c := api.Call{Kind: r.below(17), Core: core, Fd: r.below(5) - r.below(2), Off: r.someSize(), Num: r.someSize()}
	c.Path, c.Path2, c.Data = r.somePath(s), r.somePath(s), r.someData()
	if r.below(6) == 0 {
		c.Path2 = "/" + oneOf(r, "A", "I", "Q", "b")
	}
	if r.below(2) == 0 {
		c.Off = r.below(257 - min(256, len(c.Data)))
	}
	return c
}

// someState is a state behind drawn calls: with full buckets, files that are open without
// names, and cores that have nearly all numbers.
func (r *row) someState(t *testing.T, cores, calls int) api.State {
	t.Helper()
	s := newState(t, cores)
	if r.below(3) == 0 {
		s = do(t, s, create("/a"), mkdir("/i"), create("/q"), mkdir("/y"), mkdir("/c"), create("/c/Q"))
	}
	for range calls {
		c := r.someCall(s, r.below(cores))
		if r.below(2) == 0 {
			c.Kind = oneOf(r, api.CallCreate, api.CallCreate, api.CallMkdir, api.CallLink, api.CallOpen, api.CallWrite)
		}
		s, _ = model.Do(s, c)
	}
	for core := range s.Made {
		if r.below(3) == 0 {
			s.Made[core] = max(s.Made[core], api.MaxMade-r.below(3))
		}
	}
	if !model.May(s) {
		t.Fatalf("%+v may not be", s)
	}
	return s
}
