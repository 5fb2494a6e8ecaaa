package shape_test

import (
	"math"
	"slices"
	"strings"
	"testing"

	"concourse/api"
	"concourse/model"
	"concourse/shape"
)

// turns are turns of a state, each with what it is for.
type turns map[string]func(s *api.State)

// turned is aState with one turn.
func turned(turn func(s *api.State)) api.State {
	s := aState()
	turn(&s)
	return s
}

// wantNot fails unless a state is told by no text, and is no other's same, nor its own.
func wantNot(t *testing.T, what string, s api.State) {
	t.Helper()
	if text, e := shape.Files(s); text != "" || e != api.ErrShapeForm {
		t.Errorf("%s: Files: %q, error %d", what, text, e)
	}
	if text, e := shape.Of(s); text != "" || e != api.ErrShapeForm {
		t.Errorf("%s: Of: %q, error %d", what, text, e)
	}
	other, _ := model.New(1)
	for _, one := range []api.State{s, deepCopy(s), aState(), other, {}} {
		if shape.Same(s, one) || shape.Same(one, s) {
			t.Errorf("%s: the same as %+v", what, one)
		}
	}
}

// wantNone fails unless each turn leads to a state that may not be.
func wantNone(t *testing.T, all turns) {
	t.Helper()
	for what, turn := range all {
		wantNot(t, what, turned(turn))
	}
}

// deepCopy gives a state that shares no list with s.
func deepCopy(s api.State) api.State {
	s.Inodes, s.Open, s.Made = slices.Clone(s.Inodes), slices.Clone(s.Open), slices.Clone(s.Made)
	for at := range s.Inodes {
		s.Inodes[at].Entries = slices.Clone(s.Inodes[at].Entries)
	}
	return s
}

// P14.1, P14.2: nothing at all, Made that may not be, numbers that may not be.
func TestNumbersThatMayNot(t *testing.T) {
	wantNot(t, "no state", api.State{})
	wantNot(t, "empty lists", api.State{Inodes: []api.Inode{}, Open: []api.Desc{}, Made: []int{}})
	wantNone(t, turns{
		"no cores":            func(s *api.State) { s.Made = nil },
		"9 cores":             func(s *api.State) { s.Made = append(s.Made, 0, 0, 0, 0, 0, 0) },
		"made below 0":        func(s *api.State) { s.Made = append(s.Made, -1) },
		"made far below 0":    func(s *api.State) { s.Made = append(s.Made, math.MinInt) },
		"33 made":             func(s *api.State) { s.Made[1] = 33 },
		"made far above":      func(s *api.State) { s.Made[0] = math.MaxInt },
		"made too few":        func(s *api.State) { s.Made[0] = 1 },
		"a core fewer":        func(s *api.State) { s.Made = s.Made[:2] },
		"no inodes":           func(s *api.State) { s.Inodes = nil },
		"no root":             func(s *api.State) { s.Inodes = s.Inodes[1:] },
		"the root is 0":       func(s *api.State) { s.Inodes[0].Num = 0 },
		"the root is a file":  func(s *api.State) { *s = api.State{Inodes: []api.Inode{{Num: 1}}, Made: []int{0}} },
		"two roots":           func(s *api.State) { s.Inodes = append([]api.Inode{{Num: 1, Dir: true}}, s.Inodes...) },
		"two of one number":   func(s *api.State) { s.Inodes = slices.Insert(s.Inodes, 3, s.Inodes[3]) },
		"they fall":           func(s *api.State) { s.Inodes[2], s.Inodes[3] = s.Inodes[3], s.Inodes[2] },
		"of no core of these": func(s *api.State) { s.Inodes[5].Num, s.Open[2].Num = 13, 13 },
		"not yet given":       func(s *api.State) { s.Inodes[5].Num, s.Open[2].Num = 27, 27 },
		"far above all":       func(s *api.State) { s.Inodes[5].Num, s.Open[2].Num = math.MaxInt, math.MaxInt },
	})
}

// P14.1, P14.2: inodes and entries, one rule broken at a time.
func TestInodesThatMayNot(t *testing.T) {
	wantNone(t, turns{
		"a directory with bytes": func(s *api.State) { s.Inodes[1].Data = "x" },
		"a root with bytes":      func(s *api.State) { s.Inodes[0].Data = "\x00" },
		"257 bytes":              func(s *api.State) { s.Inodes[2].Data = strings.Repeat("x", 257) },
		"257 bytes, no entry":    func(s *api.State) { s.Inodes[5].Data = strings.Repeat("x", 257) },
		"a file with entries":    func(s *api.State) { s.Inodes[3].Entries = []api.Entry{{Name: "x", Num: 3}} },
		"names that fall":        func(s *api.State) { s.Inodes[0].Entries[0].Name = "c" },
		"names alike":            func(s *api.State) { s.Inodes[0].Entries[0].Name = "b" },
		"an inode that is not":   func(s *api.State) { s.Inodes[0].Entries[0].Num = 12 },
		"an inode 0":             func(s *api.State) { s.Inodes[0].Entries[0].Num = 0 },
		"an inode far below":     func(s *api.State) { s.Inodes[0].Entries[0].Num = math.MinInt },
		"an inode far above":     func(s *api.State) { s.Inodes[0].Entries[0].Num = math.MaxInt },
		"the root in itself":     func(s *api.State) { s.Inodes[0].Entries[0].Num = 1 },
		"the root elsewhere":     func(s *api.State) { s.Inodes[4].Entries[0].Num = 1 },
	})
	for _, name := range []string{"", ".", "..", "a/b", "/", "ccccccccccccc", "c\x00", "c\n", "c\x7f", "c\xff", "日本語文字"} {
		wantNot(t, "the name "+name, turned(func(s *api.State) {
			s.Inodes[4].Entries = []api.Entry{{Name: name, Num: 4}}
		}))
	}
	full := api.State{Inodes: []api.Inode{{Num: 1, Dir: true}, {Num: 2}}, Made: []int{1}}
	for _, name := range []string{"A", "I", "a", "i", "q"} {
		full.Inodes[0].Entries = append(full.Inodes[0].Entries, api.Entry{Name: name, Num: 2})
	}
	wantNot(t, "five of one bucket", full)
	full.Inodes[0].Entries = full.Inodes[0].Entries[:4]
	if !shape.Same(full, full) {
		t.Error("four of one bucket may be")
	}
}

// P14.1, P14.2: where directories and files stand, one rule broken at a time.
func TestPlacesThatMayNot(t *testing.T) {
	wantNone(t, turns{
		"a directory without entry":  func(s *api.State) { s.Inodes[1].Entries = nil },
		"two entries in a directory": func(s *api.State) { s.Inodes[0].Entries[0].Num = 2 },
		"two entries in two":         func(s *api.State) { s.Inodes[0].Entries[0].Num = 10 },
		"an entry in itself":         func(s *api.State) { s.Inodes[1].Entries[0].Num = 2; s.Inodes[0].Entries[2].Num = 10 },
		"a way back":                 func(s *api.State) { s.Inodes[4].Entries[0].Num = 2 },
		"two in each other":          func(s *api.State) { s.Inodes[0].Entries[2].Num = 3; s.Inodes[4].Entries[0].Num = 2 },
		"a ring with one outside": func(s *api.State) {
			s.Made[0] = 3
			s.Inodes = append(s.Inodes, api.Inode{Num: 18, Dir: true, Entries: []api.Entry{{Name: "ring", Num: 18}}})
		},
		"a file without entry":  func(s *api.State) { s.Inodes[4].Entries = s.Inodes[4].Entries[:1] },
		"a file no longer open": func(s *api.State) { s.Open = s.Open[:2] },
	})
}

// P14.1, P14.2: descriptors, one rule broken at a time.
func TestDescriptorsThatMayNot(t *testing.T) {
	wantNone(t, turns{
		"cores fall":         func(s *api.State) { s.Open[0].Core = 2 },
		"fds fall":           func(s *api.State) { s.Open[1].Fd, s.Open[2].Fd = 3, 0 },
		"twice":              func(s *api.State) { s.Open = append(s.Open, s.Open[2]) },
		"a core below 0":     func(s *api.State) { s.Open[0].Core = -1 },
		"a core too many":    func(s *api.State) { s.Open[2].Core = 3 },
		"an fd below 0":      func(s *api.State) { s.Open[0].Fd = -1 },
		"an fd too great":    func(s *api.State) { s.Open[2].Fd = 4 },
		"a directory":        func(s *api.State) { s.Open[0].Num = 2 },
		"the root":           func(s *api.State) { s.Open[0].Num = 1 },
		"no inode":           func(s *api.State) { s.Open[0].Num = 12 },
		"an inode below 0":   func(s *api.State) { s.Open[0].Num = math.MinInt },
		"an inode far above": func(s *api.State) { s.Open[0].Num = math.MaxInt },
	})
}

// R1: states that are far too great are refused, in little time.
func TestGreatStates(t *testing.T) {
	many := chain(256, 0)
	for num := 258; num < 100_000; num++ {
		many.Inodes = append(many.Inodes, api.Inode{Num: num, Dir: true, Entries: []api.Entry{{Name: "d", Num: num + 1}}})
	}
	wantNot(t, "many inodes", many)
	names := turned(func(s *api.State) {
		s.Inodes[4].Entries = slices.Repeat([]api.Entry{{Name: "b", Num: 3}}, 100_000)
	})
	wantNot(t, "many names", names)
	open := turned(func(s *api.State) { s.Open = slices.Repeat(s.Open[:1], 100_000) })
	wantNot(t, "many descriptors", open)
	ring := chain(256, 0)
	ring.Inodes[256].Entries = []api.Entry{{Name: "back", Num: 2}}
	wantNot(t, "a ring of all", ring)
}
