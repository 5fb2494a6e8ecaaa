package shape_test

import (
	"fmt"
	"testing"

	"concourse/api"
	"concourse/model"
	"concourse/shape"
)

// others are turns of aState to states that may be, each of one field, or of as few as one can turn.
func others() turns {
	return turns{
		"as it is":                  func(s *api.State) {},
		"a byte":                    func(s *api.State) { s.Inodes[2].Data = "bytez" },
		"a byte's case":             func(s *api.State) { s.Inodes[2].Data = "Bytes" },
		"a byte more":               func(s *api.State) { s.Inodes[2].Data = "bytes\x00" },
		"a byte fewer":              func(s *api.State) { s.Inodes[2].Data = "byte" },
		"no bytes":                  func(s *api.State) { s.Inodes[2].Data = "" },
		"a byte, where none was":    func(s *api.State) { s.Inodes[3].Data = "\x00" },
		"its digit":                 func(s *api.State) { s.Inodes[3].Data = "-" },
		"a byte, no entry":          func(s *api.State) { s.Inodes[5].Data = "helo" },
		"no bytes, no entry":        func(s *api.State) { s.Inodes[5].Data = "" },
		"a name":                    func(s *api.State) { s.Inodes[0].Entries[0].Name = "A" },
		"a name's end":              func(s *api.State) { s.Inodes[0].Entries[0].Name = "a " },
		"a directory's name":        func(s *api.State) { s.Inodes[1].Entries[0].Name = "f" },
		"a deep name":               func(s *api.State) { s.Inodes[4].Entries[1].Name = "d" },
		"a name like a line's end":  func(s *api.State) { s.Inodes[4].Entries[1].Name = "c 4 -" },
		"a name more":               func(s *api.State) { s.Inodes[1].Entries = append(s.Inodes[1].Entries, api.Entry{Name: "x", Num: 4}) },
		"a name fewer":              func(s *api.State) { s.Inodes[0].Entries = s.Inodes[0].Entries[1:] },
		"a name's number":           func(s *api.State) { s.Inodes[0].Entries[0].Num = 4 },
		"two names' numbers":        func(s *api.State) { s.Inodes[4].Entries[0].Num, s.Inodes[4].Entries[1].Num = 4, 3 },
		"a name, of the open one":   func(s *api.State) { s.Inodes[0].Entries[0].Num = 11 },
		"a file's number":           func(s *api.State) { renumber(s, 4, 19); swapInodes(s, 3, 5) },
		"a directory's number":      func(s *api.State) { s.Made[0] = 3; renumber(s, 10, 18); swapInodes(s, 4, 5) },
		"an open one's number":      func(s *api.State) { renumber(s, 11, 19) },
		"a file is a directory":     func(s *api.State) { s.Inodes[3].Dir = true },
		"a descriptor's core":       func(s *api.State) { s.Open[2].Core = 2 },
		"a descriptor's fd":         func(s *api.State) { s.Open[2].Fd = 2 },
		"the first one's fd":        func(s *api.State) { s.Open[0].Fd = 0 },
		"a descriptor's number":     func(s *api.State) { s.Open[0].Num = 4 },
		"two descriptors' numbers":  func(s *api.State) { s.Open[1].Num, s.Open[2].Num = 11, 3 },
		"another's number":          func(s *api.State) { s.Open[0].Num = 11 },
		"a descriptor more":         func(s *api.State) { s.Open = append(s.Open, api.Desc{Core: 2, Num: 3}) },
		"a descriptor fewer":        func(s *api.State) { s.Open = s.Open[1:] },
		"the open one gone":         func(s *api.State) { s.Open, s.Inodes = s.Open[:2], s.Inodes[:5] },
		"a number in Made":          func(s *api.State) { s.Made[0]++ },
		"another number in Made":    func(s *api.State) { s.Made[1]++ },
		"the last number in Made":   func(s *api.State) { s.Made[2]++ },
		"another core":              func(s *api.State) { s.Made = append(s.Made, 0) },
		"another core, and its one": func(s *api.State) { s.Made = append(s.Made, 1) },
		"a directory elsewhere": func(s *api.State) {
			s.Inodes[0].Entries = append(s.Inodes[0].Entries, s.Inodes[1].Entries[0])
			s.Inodes[1].Entries = nil
		},
	}
}

// renumber lets an inode have another number, wherever that stands.
func renumber(s *api.State, from, to int) {
	for at := range s.Inodes {
		if s.Inodes[at].Num == from {
			s.Inodes[at].Num = to
		}
		for place := range s.Inodes[at].Entries {
			if e := &s.Inodes[at].Entries[place]; e.Num == from {
				e.Num = to
			}
		}
	}
	for at := range s.Open {
		if s.Open[at].Num == from {
			s.Open[at].Num = to
		}
	}
}

// swapInodes brings the inode at one place behind those up to another.
func swapInodes(s *api.State, from, to int) {
	for ; from < to; from++ {
		s.Inodes[from], s.Inodes[from+1] = s.Inodes[from+1], s.Inodes[from]
	}
}

// P14.2: states that are one but for a field each are not the same, either way round, and each is its own copy's.
func TestSameButForAField(t *testing.T) {
	all := others()
	for what, turn := range all {
		one := turned(turn)
		if !model.May(one) {
			t.Fatalf("%s: may not be", what)
		}
		for other, turn := range all {
			if got := shape.Same(one, turned(turn)); got != (what == other) {
				t.Errorf("%s, %s: %t", what, other, got)
			}
		}
	}
}

// P14.2: a file and a directory of one name and number, and nothing in either, are not the same.
func TestFileOrDirectory(t *testing.T) {
	file := api.State{Inodes: []api.Inode{{Num: 1, Dir: true, Entries: []api.Entry{{Name: "x", Num: 2}}}, {Num: 2}}, Made: []int{1}}
	dir := deepCopy(file)
	dir.Inodes[1].Dir = true
	if shape.Same(file, dir) || shape.Same(dir, file) || !shape.Same(dir, dir) || !shape.Same(file, file) {
		t.Error("a file is a directory")
	}
}

// emptied gives a state whose lists of none are nil, or empty ones.
func emptied(s api.State, toNil bool) api.State {
	s = deepCopy(s)
	for at := range s.Inodes {
		if x := &s.Inodes[at]; len(x.Entries) == 0 {
			x.Entries = make([]api.Entry, 0, 3)
			if toNil {
				x.Entries = nil
			}
		}
	}
	if len(s.Open) == 0 {
		s.Open = []api.Desc{}
		if toNil {
			s.Open = nil
		}
	}
	return s
}

// P14.1, P14.2: an empty list and nil are one.
func TestEmptyAndNil(t *testing.T) {
	root, _ := model.New(2)
	closed := turned(func(s *api.State) { s.Open, s.Inodes = nil, s.Inodes[:5] })
	for _, s := range []api.State{aState(), root, closed, turned(func(s *api.State) { s.Inodes[3].Dir = true })} {
		one, two := emptied(s, true), emptied(s, false)
		if !shape.Same(one, two) || !shape.Same(two, one) {
			t.Errorf("not the same: %+v", s)
		}
		of, _ := shape.Of(one)
		files, _ := shape.Files(one)
		if text, e := shape.Of(two); text != of || e != api.OK {
			t.Errorf("Of: %q, error %d", text, e)
		}
		if text, e := shape.Files(two); text != files || e != api.OK {
			t.Errorf("Files: %q, error %d", text, e)
		}
	}
}

// show is a state as a text of its own kind; an empty list and nil are one.
func show(s api.State) string {
	text := fmt.Sprintf("%v %v", s.Open, s.Made)
	for _, x := range s.Inodes {
		text += fmt.Sprintf("\n%d %t %q", x.Num, x.Dir, x.Data)
		for _, e := range x.Entries {
			text += fmt.Sprintf(" %q %d", e.Name, e.Num)
		}
	}
	return text
}

// turnSome turns one thing of a state, often to another state that may be.
func (r *row) turnSome(s *api.State) {
	x, y := &s.Inodes[r.below(len(s.Inodes))], s.Inodes[r.below(len(s.Inodes))]
	switch r.below(8) {
	case 0:
		s.Made[r.below(len(s.Made))] += r.below(3) - 1
	case 1:
		x.Dir = !x.Dir
	case 2:
		x.Data = pick(r, "", "-", "\x00", "x", "bytes")
	case 3:
		x.Num += pick(r, -8, 0, 8, 1)
	case 4:
		x.Entries = append(x.Entries, api.Entry{Name: pick(r, "x", "y", "z", "z 3"), Num: y.Num})
	case 5:
		if len(x.Entries) > 0 {
			x.Entries[r.below(len(x.Entries))] = api.Entry{Name: pick(r, "a", "b", "c", "d", "e"), Num: y.Num}
		}
	case 6:
		if len(s.Open) > 0 {
			d := &s.Open[r.below(len(s.Open))]
			d.Fd, d.Num = r.below(5), pick(r, d.Num, y.Num)
		}
	case 7:
		s.Open = append(s.Open, api.Desc{Core: r.below(4), Fd: r.below(4), Num: y.Num})
	}
}

// P14.2: of any states, just those are the same that may be and are one.
func TestSameOfTurnedStates(t *testing.T) {
	g := row(3)
	var states []api.State
	for range 4000 {
		s := aState()
		for range 1 + g.below(3) {
			g.turnSome(&s)
		}
		states = append(states, s)
	}
	same, unlike, not := 0, 0, 0
	for range 40_000 {
		a, b := pick(&g, states...), pick(&g, states...)
		may := model.May(a) && model.May(b)
		want := may && show(a) == show(b)
		if got := shape.Same(a, b); got != want {
			t.Fatalf("Same: %t, of\n%s\nand\n%s", got, show(a), show(b))
		}
		switch {
		case want:
			same++
		case may:
			unlike++
		default:
			not++
		}
	}
	if same < 50 || unlike < 500 || not < 500 {
		t.Errorf("%d are the same, %d are not, %d may not be", same, unlike, not)
	}
}
