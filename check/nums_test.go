package check_test

import (
	"math"
	"slices"
	"testing"

	"concourse/api"
)

// P20.1, P20.2: states that may be, next to those that may not: nothing is found.
func TestNothing(t *testing.T) {
	wantEach(t, []one{
		{"as it is", func(s *api.State) {}, nil},
		{"more made", func(s *api.State) { s.Made = []int{32, 32, 32} }, nil},
		{"more cores", func(s *api.State) { s.Made = append(s.Made, 0, 0, 0, 0, 32) }, nil},
		{"nothing is open", func(s *api.State) { s.Open = s.Open[:0]; s.Inodes = s.Inodes[:5] }, nil},
		{"a file without a name that is open", func(s *api.State) { s.Inodes[4].Entries = s.Inodes[4].Entries[:1]; s.Open[0].Num = 4 }, nil},
		{"empty lists", func(s *api.State) { s.Inodes[2].Entries, s.Inodes[3].Entries = []api.Entry{}, []api.Entry{} }, nil},
	})
	for cores := 1; cores <= api.MaxCores; cores++ {
		want(t, "a root alone", api.State{Inodes: []api.Inode{{Num: 1, Dir: true}}, Made: make([]int, cores)})
	}
}

// P20.1, kind 1: a first inode that is not the root.
func TestTheFirstInode(t *testing.T) {
	want(t, "nothing at all", api.State{}, f(1, 1), f(8, -1))
	want(t, "no inodes", api.State{Made: []int{1}}, f(1, 1))
	want(t, "a file", api.State{Made: []int{0}, Inodes: []api.Inode{{Num: 1}}}, f(1, 1))
	want(t, "a file that is open", api.State{Made: []int{0}, Inodes: []api.Inode{{Num: 1}}, Open: []api.Desc{{Num: 1}}}, f(1, 1))
	want(t, "2", api.State{Made: []int{1}, Inodes: []api.Inode{{Num: 2, Dir: true}}}, f(1, 1), f(3, 2), f(4, 2))
	want(t, "file 2", api.State{Made: []int{1}, Inodes: []api.Inode{{Num: 2}}}, f(1, 1), f(4, 2))
	want(t, "0", api.State{Made: []int{1}, Inodes: []api.Inode{{Num: 0, Dir: true}}}, f(1, 0), f(1, 1), f(3, 0), f(4, 0), f(8, 0))
	wantEach(t, []one{
		{"no inodes, but descriptors", func(s *api.State) { s.Inodes = nil }, all(f(1, 1), f(9, 3), f(9, 11))},
		{"a file with entries", func(s *api.State) { s.Inodes[0].Dir = false },
			all(f(1, 1), f(3, 2), f(4, 2), f(4, 4), f(4, 10), f(6, 1))},
		{"a file with bytes", func(s *api.State) { s.Inodes[0] = api.Inode{Num: 1, Data: "x"} },
			all(f(1, 1), f(3, 2), f(4, 2), f(4, 4), f(4, 10))},
		{"0 in its stead", func(s *api.State) { s.Inodes[0].Num = 0 },
			all(f(1, 0), f(1, 1), f(3, 0), f(4, 0), f(4, 2), f(4, 4), f(4, 10), f(8, 0))},
		{"below 0 in its stead", func(s *api.State) { s.Inodes[0].Num = math.MinInt },
			all(f(1, math.MinInt), f(1, 1), f(3, math.MinInt), f(4, math.MinInt), f(4, 2), f(4, 4), f(4, 10), f(8, math.MinInt))},
		{"none", func(s *api.State) { s.Inodes = s.Inodes[1:] }, all(f(1, 1), f(3, 2), f(4, 2), f(4, 4), f(4, 10))},
		{"at the end", func(s *api.State) { s.Inodes = append(s.Inodes[1:], s.Inodes[0]) }, all(f(1, 1))},
		{"a file ahead of it", func(s *api.State) { s.Inodes = slices.Insert(s.Inodes, 0, api.Inode{Num: 1}) },
			all(f(1, 1), f(4, 1), f(4, 2), f(4, 4), f(4, 10))},
		{"a file behind it", func(s *api.State) { s.Inodes = slices.Insert(s.Inodes, 1, api.Inode{Num: 1}) }, all(f(1, 1), f(4, 1))},
		{"twice", func(s *api.State) { s.Inodes = slices.Insert(s.Inodes, 1, api.Inode{Num: 1, Dir: true}) }, all(f(1, 1), f(4, 1))},
		{"behind 0", func(s *api.State) { s.Inodes = slices.Insert(s.Inodes, 0, api.Inode{Num: 0}) },
			all(f(1, 0), f(1, 1), f(4, 0), f(8, 0))},
	})
}

// P20.1, kind 1: numbers below 1, equal, falling.
func TestTheRowOfInodes(t *testing.T) {
	wantEach(t, []one{
		{"equal files", func(s *api.State) { s.Inodes = slices.Insert(s.Inodes, 3, s.Inodes[3]) }, all(f(1, 4), f(4, 4))},
		{"equal files, three", func(s *api.State) { s.Inodes = slices.Insert(s.Inodes, 3, s.Inodes[3], s.Inodes[3]) }, all(f(1, 4), f(4, 4))},
		{"equal files that are open", func(s *api.State) { s.Inodes = slices.Insert(s.Inodes, 2, s.Inodes[2]) }, all(f(1, 3))},
		{"equal directories", func(s *api.State) { s.Inodes = slices.Insert(s.Inodes, 2, api.Inode{Num: 2, Dir: true}) }, all(f(1, 2), f(4, 2))},
		{"equal directories with one entry each", func(s *api.State) { s.Inodes = slices.Insert(s.Inodes, 2, s.Inodes[1]) },
			all(f(1, 2), f(3, 10), f(4, 2))},
		{"falling", func(s *api.State) { s.Inodes[2], s.Inodes[3] = s.Inodes[3], s.Inodes[2] }, all(f(1, 3))},
		{"the last falls", func(s *api.State) { s.Inodes[4], s.Inodes[5] = s.Inodes[5], s.Inodes[4] }, all(f(1, 10))},
		{"below the one ahead alone", func(s *api.State) { s.Inodes = append(s.Inodes[:1:1], append(s.Inodes[4:], s.Inodes[1:4]...)...) }, all(f(1, 2))},
		{"all fall", func(s *api.State) { slices.Reverse(s.Inodes) }, all(f(1, 1), f(1, 2), f(1, 3), f(1, 4), f(1, 10))},
		{"below 0", func(s *api.State) { s.Inodes[5].Num, s.Open[2].Num = -5, -5 }, all(f(1, -5), f(8, -5))},
		{"0", func(s *api.State) { s.Inodes[5].Num, s.Open[2].Num = 0, 0 }, all(f(1, 0), f(8, 0))},
		{"below 0, rising", func(s *api.State) { s.Inodes = slices.Insert(s.Inodes, 0, api.Inode{Num: -3}, api.Inode{Num: -2}) },
			all(f(1, -3), f(1, -2), f(1, 1), f(4, -3), f(4, -2), f(8, -3), f(8, -2))},
		{"behind the greatest", func(s *api.State) { s.Inodes = slices.Insert(s.Inodes, 1, api.Inode{Num: math.MaxInt}) },
			all(f(1, 2), f(4, math.MaxInt), f(8, math.MaxInt))},
	})
}

// P20.1: of two inodes of one number the first is found: by entries, by descriptors.
func TestTheFirstOfOneNum(t *testing.T) {
	file, directory := api.Inode{Num: 4}, api.Inode{Num: 4, Dir: true}
	place := func(s *api.State, both ...api.Inode) { s.Inodes = slices.Replace(s.Inodes, 3, 4, both...) }
	below := api.Inode{Num: 4, Dir: true, Entries: []api.Entry{{Name: "x", Num: 11}}}
	wantEach(t, []one{
		{"a directory behind", func(s *api.State) { place(s, file, directory) }, all(f(1, 4), f(4, 4))},
		{"a directory ahead", func(s *api.State) { place(s, directory, file) }, all(f(1, 4), f(4, 4))},
		{"a directory behind, open", func(s *api.State) { place(s, file, directory); s.Open[0].Num = 4 }, all(f(1, 4), f(4, 4))},
		{"a directory ahead, open", func(s *api.State) { place(s, directory, file); s.Open[0].Num = 4 }, all(f(1, 4), f(9, 4))},
		{"a way through the first", func(s *api.State) { place(s, below, file); s.Open = s.Open[:2] }, all(f(1, 4), f(4, 4))},
		{"no way through the second", func(s *api.State) { place(s, file, below); s.Open = s.Open[:2] }, all(f(1, 4), f(4, 4), f(4, 11))},
		{"a second one that is a ring's", func(s *api.State) {
			place(s, file, api.Inode{Num: 4, Dir: true, Entries: []api.Entry{{Name: "x", Num: 4}}})
		}, all(f(1, 4), f(3, 4), f(4, 4))},
	})
}

// P20.1, kind 8: Made, and numbers that no core was given, or not yet.
func TestMade(t *testing.T) {
	wantEach(t, []one{
		{"none", func(s *api.State) { s.Made, s.Open = nil, nil }, all(f(4, 11), f(8, -1), f(8, 2), f(8, 3), f(8, 4), f(8, 10), f(8, 11))},
		{"none, but descriptors", func(s *api.State) { s.Made = []int{} },
			all(f(8, -1), f(8, 2), f(8, 3), f(8, 4), f(8, 10), f(8, 11), f(9, 3), f(9, 11))},
		{"9", func(s *api.State) { s.Made = append(s.Made, 0, 0, 0, 0, 0, 0) }, all(f(8, -1))},
		{"10, one below 0", func(s *api.State) { s.Made = append(s.Made, 0, 0, 0, 0, 0, 0, -1) }, all(f(8, -1), f(8, 9))},
		{"below 0", func(s *api.State) { s.Made = append(s.Made, -1) }, all(f(8, 3))},
		{"far below 0", func(s *api.State) { s.Made = append(s.Made, 0, math.MinInt) }, all(f(8, 4))},
		{"below 0 of one that made some", func(s *api.State) { s.Made[0] = -1 }, all(f(8, 0), f(8, 2), f(8, 10))},
		{"33", func(s *api.State) { s.Made[1] = 33 }, all(f(8, 1))},
		{"far above", func(s *api.State) { s.Made[0], s.Made[2] = math.MaxInt, 34 }, all(f(8, 0), f(8, 2))},
		{"too few of 0", func(s *api.State) { s.Made[0] = 1 }, all(f(8, 10))},
		{"none of 0", func(s *api.State) { s.Made[0] = 0 }, all(f(8, 2), f(8, 10))},
		{"none of all", func(s *api.State) { clear(s.Made) }, all(f(8, 2), f(8, 3), f(8, 4), f(8, 10), f(8, 11))},
		{"a core fewer", func(s *api.State) { s.Made = s.Made[:2] }, all(f(8, 4))},
		{"two cores fewer", func(s *api.State) { s.Made, s.Open = s.Made[:1], s.Open[:1] }, all(f(4, 11), f(8, 3), f(8, 4), f(8, 11))},
		{"a place and a number in one", func(s *api.State) { s.Made = []int{2, 0, 1, 33} }, all(f(8, 3), f(8, 11))},
	})
	for _, num := range []int{12, 13, 16, 19, 26, 27, 258, 259, 1 << 20, 1 << 32, math.MaxInt} {
		want(t, "a number that none was given", turned(func(s *api.State) { s.Inodes[5].Num, s.Open[2].Num = num, num }), f(8, num))
	}
	for core := range 8 {
		s := turned(func(s *api.State) { s.Made = []int{32, 32, 32, 32, 32, 32, 32, 32} })
		last := 2 + core + 8*31
		s.Inodes[5].Num, s.Open[2].Num = last, last
		want(t, "the last number", s)
		s.Made[core] = 31
		want(t, "the last number, not yet", s, f(8, last))
		s.Made[core], s.Inodes[5].Num, s.Open[2].Num = 33, last+8, last+8
		want(t, "above the last number", s, f(8, core), f(8, last+8))
	}
}
