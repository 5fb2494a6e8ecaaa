package model_test

import (
	"math"
	"slices"
	"strings"
	"testing"

	"concourse/api"
	"concourse/model"
)

// aState may be: 3 cores; /a and /d/e/b are file 3 and "b" of the root too; /d is 2, /d/e is 10, /d/e/c file 4; file 11
// is open alone, file 3 by two cores.
func aState() api.State {
	return api.State{
		Inodes: []api.Inode{
			{Num: 1, Dir: true, Entries: []api.Entry{{Name: "a", Num: 3}, {Name: "b", Num: 3}, {Name: "d", Num: 2}}},
			{Num: 2, Dir: true, Entries: []api.Entry{{Name: "e", Num: 10}}},
			{Num: 3, Data: "bytes"},
			{Num: 4},
			{Num: 10, Dir: true, Entries: []api.Entry{{Name: "b", Num: 3}, {Name: "c", Num: 4}}},
			{Num: 11, Data: "held"},
		},
		Open: []api.Desc{{Core: 0, Fd: 1, Num: 3}, {Core: 1, Fd: 0, Num: 3}, {Core: 1, Fd: 3, Num: 11}},
		Made: []int{2, 3, 1},
	}
}

// wantMay fails unless a state may be, and calls on it are done.
func wantMay(t *testing.T, what string, s api.State) {
	t.Helper()
	if !model.May(s) || !plainMay(s) {
		t.Errorf("%s: refused", what)
	}
	if got, r := model.Do(s, api.Call{Kind: api.CallSync}); r.Code != api.CodeOK || show(got) != show(s) {
		t.Errorf("%s: Sync answers %s", what, showResult(r))
	}
}

// wantNot fails unless a state may not be, and Do and Allows give it back with EINVAL, whatever the call.
func wantNot(t *testing.T, what string, s api.State) {
	t.Helper()
	if model.May(s) || plainMay(s) {
		t.Errorf("%s: may be", what)
	}
	before := show(s)
	for kind := -1; kind < 18; kind++ {
		c := api.Call{Kind: kind, Core: 1, Path: "/a", Path2: "/z", Num: 1}
		got, r := model.Do(s, c)
		if showResult(r) != showResult(api.Result{Code: api.EINVAL}) || show(got) != before {
			t.Errorf("%s: call %d: %s\n%s", what, kind, showResult(r), show(got))
		}
		if got, may := model.Allows(s, c, api.Result{Code: api.EINVAL}); !may || show(got) != before {
			t.Errorf("%s: call %d: EINVAL is not allowed", what, kind)
		}
		for _, other := range []api.Result{{}, {Code: api.ENOENT}, {Code: api.EINVAL, Num: 1}, {Num: 1}} {
			if got, may := model.Allows(s, c, other); may || show(got) != before {
				t.Errorf("%s: call %d: %s is allowed", what, kind, showResult(other))
			}
		}
	}
	if show(s) != before {
		t.Errorf("%s: changed", what)
	}
}

// turned is aState with one turn.
func turned(turn func(s *api.State)) api.State {
	s := aState()
	turn(&s)
	return s
}

// P13's head: states that may be, next to those that may not.
func TestStatesThatMayBe(t *testing.T) {
	wantMay(t, "as it is", aState())
	for what, turn := range map[string]func(s *api.State){
		"more made":          func(s *api.State) { s.Made = []int{32, 32, 32} },
		"more cores":         func(s *api.State) { s.Made = append(s.Made, 0, 0, 0, 0, 32) },
		"256 bytes":          func(s *api.State) { s.Inodes[2].Data = strings.Repeat("\xff", 256) },
		"no descriptors":     func(s *api.State) { s.Open = s.Open[:0]; s.Inodes = s.Inodes[:5] },
		"the last Fd":        func(s *api.State) { s.Open[0].Fd = 3 },
		"the first Fd":       func(s *api.State) { s.Open[0].Fd = 0 },
		"the last core":      func(s *api.State) { s.Open[2] = api.Desc{Core: 2, Num: 11} },
		"a name fewer":       func(s *api.State) { s.Inodes[0].Entries = s.Inodes[0].Entries[1:] },
		"empty lists":        func(s *api.State) { s.Inodes[2].Entries, s.Inodes[3].Entries = []api.Entry{}, []api.Entry{} },
		"twice by one core":  func(s *api.State) { s.Open[2].Num = 3; s.Inodes = s.Inodes[:5] },
		"an empty directory": func(s *api.State) { s.Inodes[4].Entries = s.Inodes[4].Entries[1:] },
		"a long name":        func(s *api.State) { s.Inodes[4].Entries[1].Name = "cccccccccccc" },
		"names by bytes":     func(s *api.State) { s.Inodes[0].Entries[0].Name, s.Inodes[0].Entries[2].Name = "Z", "é" },
		"the last number": func(s *api.State) {
			s.Made[2] = 32
			s.Inodes[5].Num, s.Open[2].Num = 4+8*31, 4+8*31
		},
	} {
		wantMay(t, what, turned(turn))
	}
	for cores := 1; cores <= 8; cores++ {
		wantMay(t, "a root alone", api.State{Inodes: []api.Inode{{Num: 1, Dir: true}}, Made: make([]int, cores)})
	}
}

// P13's head: Made and the inodes' numbers, one rule broken at a time.
func TestNumbersThatMayNot(t *testing.T) {
	for what, turn := range map[string]func(s *api.State){
		"no state at all":    func(s *api.State) { *s = api.State{} },
		"no cores":           func(s *api.State) { s.Made = nil },
		"9 cores":            func(s *api.State) { s.Made = append(s.Made, 0, 0, 0, 0, 0, 0) },
		"many cores":         func(s *api.State) { s.Made = append(s.Made, make([]int, 1000)...) },
		"a core fewer":       func(s *api.State) { s.Made = s.Made[:2] },
		"below 0":            func(s *api.State) { s.Made = append(s.Made, -1) },
		"far below 0":        func(s *api.State) { s.Made = append(s.Made, math.MinInt) },
		"33 made":            func(s *api.State) { s.Made[1] = 33 },
		"far above":          func(s *api.State) { s.Made[0] = math.MaxInt },
		"made too few of 0":  func(s *api.State) { s.Made[0] = 1 },
		"made too few of 1":  func(s *api.State) { s.Made[1] = 1 },
		"made none of 2":     func(s *api.State) { s.Made[2] = 0 },
		"no inodes":          func(s *api.State) { s.Inodes = nil },
		"no inodes, nothing": func(s *api.State) { s.Inodes, s.Open = nil, nil },
		"no root":            func(s *api.State) { s.Inodes = s.Inodes[1:] },
		"the root is 0":      func(s *api.State) { s.Inodes[0].Num = 0 },
		"the root is below":  func(s *api.State) { s.Inodes[0].Num = -1 },
		"the root is 2":      func(s *api.State) { *s = api.State{Inodes: []api.Inode{{Num: 2, Dir: true}}, Made: []int{1}} },
		"the root is a file": func(s *api.State) { *s = api.State{Inodes: []api.Inode{{Num: 1}}, Made: []int{0}} },
		"an open root, a file": func(s *api.State) {
			*s = api.State{Inodes: []api.Inode{{Num: 1}}, Open: []api.Desc{{Num: 1}}, Made: []int{0}}
		},
		"something ahead of it": func(s *api.State) { s.Inodes = append([]api.Inode{{Num: 0, Dir: true}}, s.Inodes...) },
		"two roots":             func(s *api.State) { s.Inodes = append([]api.Inode{{Num: 1, Dir: true}}, s.Inodes...) },
		"two of one number":     func(s *api.State) { s.Inodes = slices.Insert(s.Inodes, 3, s.Inodes[3]) },
		"they do not rise":      func(s *api.State) { s.Inodes[2], s.Inodes[3] = s.Inodes[3], s.Inodes[2] },
		"the last is less":      func(s *api.State) { s.Inodes[4], s.Inodes[5] = s.Inodes[5], s.Inodes[4] },
		"of no core of these":   func(s *api.State) { s.Inodes[5].Num, s.Open[2].Num = 13, 13 },
		"not yet given":         func(s *api.State) { s.Inodes[5].Num, s.Open[2].Num = 27, 27 },
		"not yet given, core 0": func(s *api.State) { s.Inodes[5].Num, s.Open[2].Num = 18, 18 },
		"above all of core 2": func(s *api.State) {
			s.Made[2] = 32
			s.Inodes[5].Num, s.Open[2].Num = 4+8*32, 4+8*32
		},
		"far above all": func(s *api.State) { s.Inodes[5].Num, s.Open[2].Num = math.MaxInt, math.MaxInt },
	} {
		wantNot(t, what, turned(turn))
	}
}

// P13's head: what inodes and entries have, one rule broken at a time.
func TestInodesThatMayNot(t *testing.T) {
	for what, turn := range map[string]func(s *api.State){
		"a directory with bytes":  func(s *api.State) { s.Inodes[1].Data = "x" },
		"a root with bytes":       func(s *api.State) { s.Inodes[0].Data = "\x00" },
		"257 bytes":               func(s *api.State) { s.Inodes[2].Data = strings.Repeat("x", 257) },
		"far more bytes":          func(s *api.State) { s.Inodes[5].Data = strings.Repeat("x", 1<<14) },
		"a file with entries":     func(s *api.State) { s.Inodes[3].Entries = []api.Entry{{Name: "x", Num: 3}} },
		"a file with entries, 11": func(s *api.State) { s.Inodes[5].Entries = []api.Entry{{Name: "x", Num: 3}} },
		"names that fall":         func(s *api.State) { s.Inodes[0].Entries[0].Name = "c" },
		"names alike":             func(s *api.State) { s.Inodes[0].Entries[0].Name = "b" },
		"the last two fall":       func(s *api.State) { s.Inodes[0].Entries[2].Name = "ax" },
		"names by runes' case":    func(s *api.State) { s.Inodes[0].Entries[1].Name = "B" },
		"an inode that is not":    func(s *api.State) { s.Inodes[0].Entries[0].Num = 12 },
		"an inode 0":              func(s *api.State) { s.Inodes[0].Entries[0].Num = 0 },
		"an inode below 0":        func(s *api.State) { s.Inodes[0].Entries[0].Num = -3 },
		"an inode far above":      func(s *api.State) { s.Inodes[0].Entries[0].Num = math.MaxInt },
		"an inode far below":      func(s *api.State) { s.Inodes[0].Entries[0].Num = math.MinInt },
		"an inode one above all":  func(s *api.State) { s.Inodes[0].Entries[0].Num = 258 },
		"the root in itself":      func(s *api.State) { s.Inodes[0].Entries[0].Num = 1 },
		"the root elsewhere":      func(s *api.State) { s.Inodes[4].Entries[0].Num = 1 },
	} {
		wantNot(t, what, turned(turn))
	}
	for _, name := range []string{"", ".", "..", "a/b", "/", "ccccccccccccc", "c\x00", "c\x1f", "c\x7f", "c\xff", "\x80", "日本語文字"} {
		wantNot(t, "the name "+name, turned(func(s *api.State) {
			s.Inodes[4].Entries = []api.Entry{{Name: name, Num: 4}}
		}))
	}
}

// withNames is a state whose root's names are those, all of one file.
func withNames(names []string) api.State {
	root := api.Inode{Num: 1, Dir: true}
	slices.Sort(names)
	for _, one := range names {
		root.Entries = append(root.Entries, api.Entry{Name: one, Num: 2})
	}
	return api.State{Inodes: []api.Inode{root, {Num: 2}}, Made: []int{1}}
}

// P13's head: of no bucket there are more than MaxSlots names.
func TestBucketsThatMayNot(t *testing.T) {
	var all []string
	for bucket := range 8 {
		all = append(all, oneBucket(bucket, 4)...)
		wantMay(t, "MaxSlots", withNames(oneBucket(bucket, 4)))
		wantNot(t, "one above", withNames(oneBucket(bucket, 5)))
		wantNot(t, "far above", withNames(oneBucket(bucket, 40)))
	}
	wantMay(t, "all buckets full", withNames(slices.Clone(all)))
	for bucket := range 8 {
		wantNot(t, "one more", withNames(append(slices.Clone(all), oneBucket(bucket, 5)[4])))
	}
	two := withNames(oneBucket(2, 4))
	two.Inodes[0].Entries = append(two.Inodes[0].Entries, api.Entry{Name: "z", Num: 10})
	two.Inodes = append(two.Inodes, api.Inode{Num: 10, Dir: true, Entries: slices.Clone(two.Inodes[0].Entries[:4])})
	two.Made[0] = 2
	wantMay(t, "one bucket of two directories", two)
}

// P13's head: each directory has one entry and is found, each file has one or is open; one rule broken at a time.
func TestPlacesThatMayNot(t *testing.T) {
	for what, turn := range map[string]func(s *api.State){
		"a directory without entry":    func(s *api.State) { s.Inodes[1].Entries = nil },
		"a new one without entry":      func(s *api.State) { s.Made[0]++; s.Inodes = append(s.Inodes, api.Inode{Num: 18, Dir: true}) },
		"two entries in a directory":   func(s *api.State) { s.Inodes[0].Entries[0].Num = 2 },
		"two entries in two":           func(s *api.State) { s.Inodes[0].Entries[0].Num = 10 },
		"an entry in itself":           func(s *api.State) { s.Inodes[1].Entries[0].Num = 2; s.Inodes[0].Entries[2].Num = 10 },
		"an entry in itself and found": func(s *api.State) { s.Inodes[4].Entries[0].Num = 10 },
		"two in each other":            func(s *api.State) { s.Inodes[0].Entries[2].Num = 3; s.Inodes[4].Entries[0].Num = 2 },
		"a ring with one outside": func(s *api.State) {
			s.Made[0] = 3
			s.Inodes = append(s.Inodes, api.Inode{Num: 18, Dir: true, Entries: []api.Entry{{Name: "ring", Num: 18}}})
		},
		"a file without entry":      func(s *api.State) { s.Inodes[4].Entries = s.Inodes[4].Entries[:1] },
		"a file no longer open":     func(s *api.State) { s.Open = s.Open[:2] },
		"a file whose fd is gone":   func(s *api.State) { s.Open[2].Num = 3 },
		"an entry of a ring's only": func(s *api.State) { ringWithAFile(s) },
	} {
		wantNot(t, what, turned(turn))
	}
}

// ringWithAFile lets directory 10 be in itself, and have the only entry of file 4.
func ringWithAFile(s *api.State) {
	s.Inodes[1].Entries = nil
	s.Inodes[4].Entries = []api.Entry{{Name: "c", Num: 4}, {Name: "ring", Num: 10}}
}

// P13's head: descriptors, one rule broken at a time.
func TestDescriptorsThatMayNot(t *testing.T) {
	for what, turn := range map[string]func(s *api.State){
		"cores fall":          func(s *api.State) { s.Open[0].Core = 2 },
		"fds fall":            func(s *api.State) { s.Open[1].Fd, s.Open[2].Fd = 3, 0 },
		"twice":               func(s *api.State) { s.Open = append(s.Open, s.Open[2]) },
		"twice, another file": func(s *api.State) { s.Open[1].Fd = 3 },
		"swapped":             func(s *api.State) { s.Open[0], s.Open[1] = s.Open[1], s.Open[0] },
		"a core below 0":      func(s *api.State) { s.Open[0].Core = -1 },
		"a core too many":     func(s *api.State) { s.Open[2].Core = 3 },
		"a core far above":    func(s *api.State) { s.Open[2].Core = math.MaxInt },
		"an fd below 0":       func(s *api.State) { s.Open[0].Fd = -1 },
		"an fd too great":     func(s *api.State) { s.Open[2].Fd = 4 },
		"an fd far above":     func(s *api.State) { s.Open[2].Fd = math.MaxInt },
		"a directory":         func(s *api.State) { s.Open[0].Num = 2 },
		"the root":            func(s *api.State) { s.Open[0].Num = 1 },
		"no inode":            func(s *api.State) { s.Open[0].Num = 12 },
		"inode 0":             func(s *api.State) { s.Open[0].Num = 0 },
		"an inode below 0":    func(s *api.State) { s.Open[0].Num = math.MinInt },
		"an inode far above":  func(s *api.State) { s.Open[0].Num = math.MaxInt },
	} {
		wantNot(t, what, turned(turn))
	}
}

// chain is a state of so many directories, each in the one ahead.
func chain(count int) api.State {
	s := api.State{Made: make([]int, 8)}
	for at := range count + 1 {
		x := api.Inode{Num: 1 + at, Dir: true}
		if at < count {
			x.Entries = []api.Entry{{Name: "d", Num: 2 + at}}
		}
		s.Inodes = append(s.Inodes, x)
	}
	for core := range 8 {
		s.Made[core] = 32
	}
	return s
}

// P13's head: directories may be deeper than a path can lead, and all that cores can make may be there.
func TestDeepStates(t *testing.T) {
	for _, count := range []int{1, 4, 5, 31, 256} {
		s := chain(count)
		wantMay(t, "a chain", s)
		s.Inodes[count].Entries = []api.Entry{{Name: "up", Num: 1}}
		wantNot(t, "a chain back to the root", s)
		if count > 1 {
			s.Inodes[count].Entries[0].Num = 2
			wantNot(t, "a chain back to its first", s)
			s.Inodes[0].Entries = nil
			wantNot(t, "a ring", s)
		}
	}
}

// R1: states that are far too great are refused, in little time.
func TestGreatStates(t *testing.T) {
	many := chain(256)
	for num := 258; num < 200_000; num++ {
		many.Inodes = append(many.Inodes, api.Inode{Num: num})
	}
	if model.May(many) {
		t.Error("many inodes")
	}
	names := withNames([]string{"a"})
	for range 200_000 {
		names.Inodes[0].Entries = append(names.Inodes[0].Entries, api.Entry{Name: "b", Num: 2})
	}
	if model.May(names) || model.Links(names, 2) != 200_001 {
		t.Error("many names")
	}
	open := withNames([]string{"a"})
	open.Open = make([]api.Desc, 200_000)
	for at := range open.Open {
		open.Open[at] = api.Desc{Fd: at, Num: 2}
	}
	if model.May(open) {
		t.Error("many descriptors")
	}
	for _, s := range []api.State{many, names, open} {
		if _, r := model.Do(s, create("/x")); r.Code != api.EINVAL {
			t.Errorf("code %d", r.Code)
		}
	}
}
