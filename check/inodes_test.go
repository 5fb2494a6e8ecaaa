package check_test

import (
	"fmt"
	"math"
	"slices"
	"strings"
	"testing"

	"concourse/api"
)

// P20.1, kind 2: entries to the root, and to what is not there.
func TestEntriesToNothing(t *testing.T) {
	for _, num := range []int{0, -3, 5, 12, 258, 1 << 32, math.MinInt, math.MaxInt} {
		want(t, "not there", turned(func(s *api.State) { s.Inodes[0].Entries[0].Num = num }), f(2, 1, "a"))
	}
	wantEach(t, []one{
		{"the root in itself", func(s *api.State) { s.Inodes[0].Entries[1].Num = 1 }, all(f(2, 1, "b"))},
		{"the root elsewhere", func(s *api.State) { s.Inodes[4].Entries[0].Num = 1 }, all(f(2, 10, "b"))},
		{"the root in a file's stead", func(s *api.State) { s.Inodes[4].Entries[1].Num = 1 }, all(f(2, 10, "c"), f(4, 4))},
		{"several", func(s *api.State) {
			s.Inodes[0].Entries[0].Num, s.Inodes[0].Entries[1].Num, s.Inodes[4].Entries[0].Num = 7, 1, 7
		},
			all(f(2, 1, "a"), f(2, 1, "b"), f(2, 10, "b"))},
		{"a file that went", func(s *api.State) { s.Inodes = slices.Delete(s.Inodes, 2, 3); s.Open = s.Open[2:] },
			all(f(2, 1, "a"), f(2, 1, "b"), f(2, 10, "b"))},
		{"a directory that went", func(s *api.State) { s.Inodes = slices.Delete(s.Inodes, 1, 2) },
			all(f(2, 1, "d"), f(3, 10), f(4, 4), f(4, 10))},
		{"in one that is not found", func(s *api.State) { s.Inodes[1].Entries = nil; s.Inodes[4].Entries[0].Num = 6 },
			all(f(2, 10, "b"), f(3, 10), f(4, 4), f(4, 10))},
		{"in 1 that is not the first", func(s *api.State) {
			s.Inodes = append(s.Inodes[1:], s.Inodes[0])
			s.Inodes[5].Entries[0].Num = 1
		}, all(f(1, 1), f(2, 1, "a"))},
	})
}

// P20.1, kind 3: directories of no entry, of two, in themselves.
func TestDirectoriesEntries(t *testing.T) {
	wantEach(t, []one{
		{"none", func(s *api.State) { s.Inodes[1].Entries = nil }, all(f(3, 10), f(4, 4), f(4, 10))},
		{"none, empty", func(s *api.State) { s.Made[0]++; s.Inodes = append(s.Inodes, api.Inode{Num: 18, Dir: true}) }, all(f(3, 18), f(4, 18))},
		{"two in one", func(s *api.State) { s.Inodes[0].Entries[0].Num = 2 }, all(f(3, 2))},
		{"two in two", func(s *api.State) { s.Inodes[0].Entries[0].Num = 10 }, all(f(3, 10))},
		{"three", func(s *api.State) { s.Inodes[0].Entries[0].Num, s.Inodes[0].Entries[1].Num = 10, 10 }, all(f(3, 10))},
		{"one more in itself", func(s *api.State) { s.Inodes[4].Entries[0].Num = 10 }, all(f(3, 10))},
		{"one more in one below", func(s *api.State) { s.Inodes[4].Entries[0].Num = 2 }, all(f(3, 2))},
		{"one more in one that is not found", func(s *api.State) {
			s.Made[0]++
			s.Inodes = append(s.Inodes, api.Inode{Num: 18, Dir: true, Entries: []api.Entry{{Name: "x", Num: 2}}})
		}, all(f(3, 2), f(3, 18), f(4, 18))},
		{"in a file's entries", func(s *api.State) { s.Inodes[3].Entries = []api.Entry{{Name: "x", Num: 2}} }, all(f(6, 4))},
		{"in a file's entries alone", func(s *api.State) { s.Inodes[1].Dir = false }, all(f(3, 10), f(4, 4), f(4, 10), f(6, 2))},
	})
}

// P20.1, kind 4: what is not found from 1 on, and what is open.
func TestNotFound(t *testing.T) {
	wantEach(t, []one{
		{"a ring of one", func(s *api.State) {
			s.Made[0]++
			s.Inodes = append(s.Inodes, api.Inode{Num: 18, Dir: true, Entries: []api.Entry{{Name: "x", Num: 18}}})
		}, all(f(4, 18))},
		{"a ring of two, with a file", func(s *api.State) { s.Inodes[0].Entries[2].Num = 3; s.Inodes[4].Entries[0].Num = 2 }, all(f(4, 2), f(4, 4), f(4, 10))},
		{"a ring ahead of others", func(s *api.State) { s.Inodes[1].Entries[0].Num = 2; s.Inodes[0].Entries[2].Num = 10 }, all(f(4, 2))},
		{"a ring that holds 1", func(s *api.State) {
			s.Inodes[0].Entries[2].Num = 3
			s.Inodes[4].Entries = []api.Entry{{Name: "b", Num: 1}, {Name: "c", Num: 2}}
		},
			all(f(2, 10, "b"), f(4, 2), f(4, 4), f(4, 10))},
		{"a file without a name", func(s *api.State) { s.Inodes[4].Entries = s.Inodes[4].Entries[:1] }, all(f(4, 4))},
		{"a file without a name, open", func(s *api.State) { s.Inodes[4].Entries = s.Inodes[4].Entries[:1]; s.Open[1].Num = 4 }, nil},
		{"a file no longer open", func(s *api.State) { s.Open = s.Open[:2] }, all(f(4, 11))},
		{"a file whose descriptor went over", func(s *api.State) { s.Open[2].Num = 3 }, all(f(4, 11))},
		{"a file by a descriptor of no core", func(s *api.State) { s.Open[2].Core = 3 }, all(f(9, 11))},
		{"a file by no Fd", func(s *api.State) { s.Open[2].Fd = 4 }, all(f(9, 11))},
		{"a directory that is open", func(s *api.State) {
			s.Made[0]++
			s.Inodes = append(s.Inodes, api.Inode{Num: 18, Dir: true})
			s.Open[0].Num = 18
		},
			all(f(3, 18), f(4, 18), f(9, 18))},
		{"a file by a file's entries", func(s *api.State) {
			s.Inodes[4].Entries = s.Inodes[4].Entries[:1]
			s.Inodes[2].Entries = []api.Entry{{Name: "x", Num: 4}}
		}, all(f(4, 4), f(6, 3))},
		{"a file by a name that may not be", func(s *api.State) { s.Inodes[4].Entries[1].Name = "c/" }, all(f(5, 10, "c/"))},
		{"a file by a name that is there", func(s *api.State) { s.Inodes[4].Entries[1].Name = "b" }, all(f(5, 10, "b"))},
		{"files by a directory that is not found", func(s *api.State) { s.Inodes[0].Entries = nil; s.Open = nil },
			all(f(3, 2), f(4, 2), f(4, 3), f(4, 4), f(4, 10), f(4, 11))},
	})
}

// wrongNames may not be.
var wrongNames = []string{"", ".", "..", "/", "a/b", "b/", "ccccccccccccc", "日本語文字", "c\x00", "c\x1f", "\n", "c\x7f", "c\xff", "\x80", "é\xc3", "c\xed\xa0\x80", strings.Repeat("x", 5000)}

// P20.1, kind 5: names that may not be.
func TestWrongNames(t *testing.T) {
	for _, name := range wrongNames {
		want(t, "a wrong name", turned(func(s *api.State) { s.Inodes[4].Entries = []api.Entry{{Name: name, Num: 4}} }), f(5, 10, name))
		want(t, "a wrong name of the root", turned(func(s *api.State) { s.Inodes[0].Entries = []api.Entry{{Name: name, Num: 2}} }), f(5, 1, name))
	}
	for _, name := range []string{"...", "-", " ", "~", "\u0080", "\ufffd", "cccccccccccc", "日本語文", "c.", "\u2028"} {
		want(t, "a name", turned(func(s *api.State) { s.Inodes[4].Entries = []api.Entry{{Name: name, Num: 4}} }))
	}
}

// P20.1, kind 5: names that are equal, or fall.
func TestTheRowOfNames(t *testing.T) {
	wantEach(t, []one{
		{"equal", func(s *api.State) { s.Inodes[0].Entries[1].Name = "a" }, all(f(5, 1, "a"))},
		{"equal, the last", func(s *api.State) { s.Inodes[0].Entries[2].Name = "b" }, all(f(5, 1, "b"))},
		{"all equal", func(s *api.State) { s.Inodes[0].Entries[0].Name, s.Inodes[0].Entries[2].Name = "b", "b" }, all(f(5, 1, "b"))},
		{"falling", func(s *api.State) { s.Inodes[0].Entries[0].Name = "c" }, all(f(5, 1, "b"))},
		{"falling below the one ahead alone", func(s *api.State) { s.Inodes[0].Entries[1].Name = "z" }, all(f(5, 1, "d"))},
		{"falling below the first", func(s *api.State) { s.Inodes[0].Entries[1].Name = "A" }, all(f(5, 1, "A"))},
		{"all fall", func(s *api.State) { slices.Reverse(s.Inodes[0].Entries) }, all(f(5, 1, "a"), f(5, 1, "b"))},
		{"of two directories", func(s *api.State) { s.Inodes[0].Entries[0].Name, s.Inodes[4].Entries[0].Name = "b", "c" }, all(f(5, 1, "b"), f(5, 10, "c"))},
		{"by bytes", func(s *api.State) { s.Inodes[0].Entries[0].Name, s.Inodes[0].Entries[2].Name = "Z", "é" }, nil},
		{"by bytes, falling", func(s *api.State) { s.Inodes[0].Entries[1].Name = "é" }, all(f(5, 1, "d"))},
		{"a beginning behind", func(s *api.State) { s.Inodes[0].Entries[0].Name = "bb" }, all(f(5, 1, "b"))},
		{"a beginning ahead", func(s *api.State) { s.Inodes[0].Entries[1].Name = "aa" }, nil},
		{"wrong and equal", func(s *api.State) { s.Inodes[4].Entries = []api.Entry{{Name: "", Num: 3}, {Name: "", Num: 4}} }, all(f(5, 10, ""))},
		{"behind a wrong one", func(s *api.State) { s.Inodes[4].Entries[0].Name = "d/" }, all(f(5, 10, "c"), f(5, 10, "d/"))},
	})
}

// P20.1, kind 6: what an inode of its kind may not have.
func TestContents(t *testing.T) {
	wantEach(t, []one{
		{"a root with bytes", func(s *api.State) { s.Inodes[0].Data = "\x00" }, all(f(6, 1))},
		{"a directory with bytes", func(s *api.State) { s.Inodes[4].Data = "x" }, all(f(6, 10))},
		{"a directory with many bytes", func(s *api.State) { s.Inodes[4].Data = strings.Repeat("x", 257) }, all(f(6, 10))},
		{"256 bytes", func(s *api.State) { s.Inodes[3].Data = strings.Repeat("\xff", 256) }, nil},
		{"257 bytes", func(s *api.State) { s.Inodes[3].Data = strings.Repeat("x", 257) }, all(f(6, 4))},
		{"257 bytes, open alone", func(s *api.State) { s.Inodes[5].Data = strings.Repeat("x", 257) }, all(f(6, 11))},
		{"86 runes of 3 bytes", func(s *api.State) { s.Inodes[3].Data = strings.Repeat("日", 86) }, all(f(6, 4))},
		{"far more", func(s *api.State) { s.Inodes[2].Data = strings.Repeat("x", 1<<20) }, all(f(6, 3))},
		{"a file with entries", func(s *api.State) { s.Inodes[3].Entries = []api.Entry{{Name: "x", Num: 3}} }, all(f(6, 4))},
		{"entries and 257 bytes", func(s *api.State) {
			s.Inodes[5].Entries, s.Inodes[5].Data = []api.Entry{{}}, strings.Repeat("x", 257)
		}, all(f(6, 11))},
	})
}

// P20.1: entries of files count for nothing but kind 6, whatever they are.
func TestEntriesOfFiles(t *testing.T) {
	many := withNames(oneBucket(3, 40)).Inodes[0].Entries
	for _, entries := range [][]api.Entry{
		{{Name: "x", Num: 1}}, {{Name: "x", Num: 99}}, {{Name: "x", Num: math.MinInt}}, {{Name: "x", Num: 2}, {Name: "y", Num: 10}},
		{{Name: "", Num: 3}}, {{Name: "/", Num: 4}}, {{Name: "x", Num: 3}, {Name: "x", Num: 3}}, {{Name: "y", Num: 3}, {Name: "x", Num: 3}}, many,
	} {
		want(t, "a file's entries", turned(func(s *api.State) { s.Inodes[3].Entries = entries }), f(6, 4))
		want(t, "two files' entries", turned(func(s *api.State) { s.Inodes[2].Entries, s.Inodes[5].Entries = entries, entries }), f(6, 3), f(6, 11))
	}
}

// oneBucket gives so many names of a bucket, rising.
func oneBucket(bucket int64, many int) []string {
	var names []string
	for at := 0; len(names) < many; at++ {
		if name := fmt.Sprintf("n%05d", at); plainBucket(name) == bucket {
			names = append(names, name)
		}
	}
	return names
}

// withNames is a state whose root's names are those, all of one file.
func withNames(names []string) api.State {
	root := api.Inode{Num: 1, Dir: true}
	slices.Sort(names)
	for _, name := range names {
		root.Entries = append(root.Entries, api.Entry{Name: name, Num: 2})
	}
	return api.State{Inodes: []api.Inode{root, {Num: 2}}, Made: []int{1}}
}

// P20.1, kind 7: MaxSlots names of a bucket, and one more.
func TestBuckets(t *testing.T) {
	var full []string
	for bucket := range int64(8) {
		full = append(full, oneBucket(bucket, 4)...)
		want(t, "MaxSlots", withNames(oneBucket(bucket, 4)))
		want(t, "one more", withNames(oneBucket(bucket, 5)), f(7, 1))
		want(t, "many more", withNames(oneBucket(bucket, 40)), f(7, 1))
	}
	want(t, "all buckets full", withNames(slices.Clone(full)))
	for bucket := range int64(8) {
		want(t, "all full, and one more", withNames(append(slices.Clone(full), oneBucket(bucket, 5)[4])), f(7, 1))
	}
	want(t, "two buckets above", withNames(append(oneBucket(1, 5), oneBucket(2, 6)...)), f(7, 1))
	two := withNames(oneBucket(2, 4))
	two.Inodes[0].Entries = append(two.Inodes[0].Entries, api.Entry{Name: "z", Num: 10})
	two.Inodes = append(two.Inodes, api.Inode{Num: 10, Dir: true, Entries: slices.Clone(two.Inodes[0].Entries[:4])})
	two.Made[0] = 2
	want(t, "one bucket of two directories", two)
	two.Inodes[1], two.Inodes[0].Entries[4].Name = api.Inode{Num: 2}, oneBucket(2, 5)[4]
	want(t, "one more in the first", two, f(7, 1))
	two.Inodes[0].Entries[4].Name = "z"
	two.Inodes[2].Entries = append(two.Inodes[2].Entries, api.Entry{Name: oneBucket(2, 5)[4], Num: 2})
	want(t, "one more in the second", two, f(7, 10))
	wrong := withNames([]string{"\xff", "\xfe", "\xfd", "\xfc", "\xfb"})
	want(t, "names that may not be, of one bucket", wrong, f(5, 1, "\xfb"), f(5, 1, "\xfc"), f(5, 1, "\xfd"), f(5, 1, "\xfe"), f(5, 1, "\xff"), f(7, 1))
	want(t, "one name five times", withNames([]string{"a", "a", "a", "a", "a"}), f(5, 1, "a"), f(7, 1))
}
