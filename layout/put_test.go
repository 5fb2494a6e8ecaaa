package layout_test

import (
	"math"
	"slices"
	"strings"
	"testing"

	"concourse/api"
	"concourse/layout"
	"concourse/model"
)

// aState is a state with one of each: a file of several names, an empty one, one that is open alone.
func aState() api.State {
	return api.State{
		Inodes: []api.Inode{
			{Num: 1, Dir: true, Entries: []api.Entry{{Name: "a", Num: 3}, {Name: "b", Num: 3}, {Name: "d", Num: 2}}},
			{Num: 2, Dir: true, Entries: []api.Entry{{Name: "e", Num: 10}}},
			{Num: 3, Data: "bytes"},
			{Num: 4},
			{Num: 10, Dir: true, Entries: []api.Entry{{Name: "b", Num: 3}, {Name: "c", Num: 4}}},
			{Num: 11, Data: "held"},
		},
		Open: []api.Desc{{Core: 0, Fd: 1, Num: 3}, {Core: 1, Fd: 0, Num: 3}, {Core: 1, Fd: 3, Num: 11}},
		Made: []int{2, 2, 1},
	}
}

// turned is aState with one turn.
func turned(turn func(s *api.State)) api.State {
	s := aState()
	turn(&s)
	return s
}

// P19.1: bytes that are written out here, the sum too.
func TestPutOfTheLeastState(t *testing.T) {
	s, _ := model.New(1)
	want := "CNC1\x01\x00\x01\x01\x01\x00\x84\x0b\x89\x96\x64\x4a\xa2\xb6"
	wantPut(t, s, want)
	wantGet(t, want, s, api.OK)
}

// P19.1: Made of each number of cores.
func TestPutOfEachNumberOfCores(t *testing.T) {
	for cores := 1; cores <= api.MaxCores; cores++ {
		s, _ := model.New(cores)
		wantPut(t, s, summed("CNC1"+string(rune(cores))+strings.Repeat("\x00", cores)+"\x01\x01\x01\x00"))
		for core := range cores {
			s.Made[core] = 32 - 3*core
		}
		wantBack(t, s)
	}
}

// P19.1: directories, files, names and what is left out, byte by byte.
func TestPutOfOneOfEach(t *testing.T) {
	want := summed("CNC1" + "\x03\x02\x02\x01" + "\x05" +
		"\x01\x01\x03" + "\x01a\x03" + "\x01b\x03" + "\x01d\x02" +
		"\x02\x01\x01" + "\x01e\x0a" +
		"\x03\x00\x05bytes" +
		"\x04\x00\x00" +
		"\x0a\x01\x02" + "\x01b\x03" + "\x01c\x04")
	wantPut(t, aState(), want)
	without := aState()
	without.Inodes, without.Open = without.Inodes[:5], nil
	wantPut(t, without, want)
	wantGet(t, want, without, api.OK)
}

// P19.1: numbers from 128 on have two parts, and a text its bytes as they are.
func TestPutOfGreatNumbers(t *testing.T) {
	for _, one := range []struct {
		num   int
		bytes string
	}{{126, "\x7e"}, {127, "\x7f"}, {128, "\x80\x01"}, {129, "\x81\x01"}, {255, "\xff\x01"}, {256, "\x80\x02"}, {257, "\x81\x02"}} {
		s := api.State{Made: slices.Repeat([]int{32}, 8), Inodes: []api.Inode{
			{Num: 1, Dir: true, Entries: []api.Entry{{Name: "日本 é", Num: one.num}}},
			{Num: one.num, Data: strings.Repeat("\x80", one.num-1)},
		}}
		size := num(one.num - 1)
		want := "CNC1\x08" + strings.Repeat("\x20", 8) + "\x02" + "\x01\x01\x01" + "\x09日本 é" + one.bytes
		want += one.bytes + "\x00" + size + strings.Repeat("\x80", one.num-1)
		wantPut(t, s, summed(want))
		wantGet(t, summed(want), s, api.OK)
	}
}

// P19.1: a file of each length that there may be, of each byte.
func TestPutOfEachLength(t *testing.T) {
	for length := range api.MaxFile + 1 {
		data := strings.Repeat(string([]byte{byte(length)}), length)
		wantBack(t, turned(func(s *api.State) { s.Inodes[2].Data = data }))
	}
	var all []byte
	for b := range 256 {
		all = append(all, byte(b))
	}
	wantBack(t, turned(func(s *api.State) { s.Inodes[3].Data = string(all) }))
}

// P19.1: names of each length that there may be.
func TestPutOfEachName(t *testing.T) {
	for length := 1; length <= api.MaxName; length++ {
		wantBack(t, turned(func(s *api.State) { s.Inodes[4].Entries[1].Name = strings.Repeat("c", length) }))
	}
}

// P19.1: files that are open alone are left out, wherever they stand; those that have a name beside are not.
func TestOpenAloneIsLeftOut(t *testing.T) {
	s := api.State{Made: []int{4}, Inodes: []api.Inode{{Num: 1, Dir: true}, {Num: 2, Data: "x"}, {Num: 10}, {Num: 18, Data: "y"}, {Num: 26}}}
	for at, x := range s.Inodes[1:] {
		s.Open = append(s.Open, api.Desc{Fd: at, Num: x.Num})
	}
	wantPut(t, s, summed("CNC1\x01\x04\x01\x01\x01\x00"))
	for picks := range 16 {
		s.Inodes[0].Entries = nil
		var inodes []string
		for at, x := range s.Inodes[1:] {
			if picks>>at&1 == 1 {
				s.Inodes[0].Entries = append(s.Inodes[0].Entries, api.Entry{Name: string(rune('a' + at)), Num: x.Num})
				inodes = append(inodes, file(x.Num, x.Data))
			}
		}
		var entries []string
		for _, e := range s.Inodes[0].Entries {
			entries = append(entries, entry(e.Name, e.Num))
		}
		want := summed(body(made(4), append([]string{directory(1, entries...)}, inodes...)...))
		wantPut(t, s, want)
		wantGet(t, want, kept(s), api.OK)
	}
}

// P19.1: a file that is open alone by all descriptors that there can be.
func TestOpenAloneByAll(t *testing.T) {
	s, _ := model.New(8)
	s.Made[7] = 1
	s.Inodes = append(s.Inodes, api.Inode{Num: 9, Data: strings.Repeat("z", 256)})
	for at := range 32 {
		s.Open = append(s.Open, api.Desc{Core: at / 4, Fd: at % 4, Num: 9})
	}
	wantPut(t, s, summed(body(made(0, 0, 0, 0, 0, 0, 0, 1), directory(1))))
}

// wrongStates are turns of aState to states that may not be.
func wrongStates() map[string]func(s *api.State) {
	return map[string]func(s *api.State){
		"nothing at all":            func(s *api.State) { *s = api.State{} },
		"empty lists":               func(s *api.State) { *s = api.State{Inodes: []api.Inode{}, Open: []api.Desc{}, Made: []int{}} },
		"no cores":                  func(s *api.State) { s.Made = nil },
		"9 cores":                   func(s *api.State) { s.Made = append(s.Made, 0, 0, 0, 0, 0, 0) },
		"made below 0":              func(s *api.State) { s.Made = append(s.Made, -1) },
		"made far below 0":          func(s *api.State) { s.Made = append(s.Made, math.MinInt) },
		"33 made":                   func(s *api.State) { s.Made[1] = 33 },
		"made far above":            func(s *api.State) { s.Made[0] = math.MaxInt },
		"made too few":              func(s *api.State) { s.Made[0] = 1 },
		"a core fewer":              func(s *api.State) { s.Made = s.Made[:2] },
		"no inodes":                 func(s *api.State) { s.Inodes = nil },
		"no root":                   func(s *api.State) { s.Inodes = s.Inodes[1:] },
		"the root is 0":             func(s *api.State) { s.Inodes[0].Num = 0 },
		"the root is a file":        func(s *api.State) { *s = api.State{Inodes: []api.Inode{{Num: 1}}, Made: []int{0}} },
		"two roots":                 func(s *api.State) { s.Inodes = slices.Insert(s.Inodes, 1, api.Inode{Num: 1, Dir: true}) },
		"two of one number":         func(s *api.State) { s.Inodes = slices.Insert(s.Inodes, 3, s.Inodes[3]) },
		"they fall":                 func(s *api.State) { s.Inodes[2], s.Inodes[3] = s.Inodes[3], s.Inodes[2] },
		"a number below 0":          func(s *api.State) { s.Inodes[5].Num, s.Open[2].Num = -5, -5 },
		"not yet given":             func(s *api.State) { s.Inodes[5].Num, s.Open[2].Num = 27, 27 },
		"a directory with bytes":    func(s *api.State) { s.Inodes[1].Data = "x" },
		"257 bytes":                 func(s *api.State) { s.Inodes[2].Data = strings.Repeat("x", 257) },
		"257 bytes, open alone":     func(s *api.State) { s.Inodes[5].Data = strings.Repeat("x", 257) },
		"a file with entries":       func(s *api.State) { s.Inodes[3].Entries = []api.Entry{{Name: "x", Num: 3}} },
		"names that fall":           func(s *api.State) { s.Inodes[0].Entries[0].Name = "c" },
		"names alike":               func(s *api.State) { s.Inodes[0].Entries[0].Name = "b" },
		"no name":                   func(s *api.State) { s.Inodes[0].Entries[0].Name = "" },
		"a name of 13 bytes":        func(s *api.State) { s.Inodes[0].Entries[0].Name = "aaaaaaaaaaaaa" },
		"a name that may not be":    func(s *api.State) { s.Inodes[0].Entries[0].Name = ".." },
		"an inode that is not":      func(s *api.State) { s.Inodes[0].Entries[0].Num = 12 },
		"the root in itself":        func(s *api.State) { s.Inodes[0].Entries[0].Num = 1 },
		"an entry far below 0":      func(s *api.State) { s.Inodes[0].Entries[0].Num = math.MinInt },
		"a directory without entry": func(s *api.State) { s.Inodes[1].Entries = nil },
		"a directory twice":         func(s *api.State) { s.Inodes[0].Entries[0].Num = 10 },
		"two in each other":         func(s *api.State) { s.Inodes[0].Entries[2].Num = 3; s.Inodes[4].Entries[0].Num = 2 },
		"a file without entry":      func(s *api.State) { s.Inodes[4].Entries = s.Inodes[4].Entries[:1] },
		"a file no longer open":     func(s *api.State) { s.Open = s.Open[:2] },
		"descriptors fall":          func(s *api.State) { s.Open[0].Core = 2 },
		"a descriptor twice":        func(s *api.State) { s.Open = append(s.Open, s.Open[2]) },
		"a descriptor of no core":   func(s *api.State) { s.Open[2].Core = 3 },
		"a descriptor too great":    func(s *api.State) { s.Open[2].Fd = 4 },
		"a directory is open":       func(s *api.State) { s.Open[0].Num = 2 },
		"nothing is open":           func(s *api.State) { s.Open[0].Num = 12 },
		"one above of one bucket": func(s *api.State) {
			s.Inodes[4].Entries = nil
			for _, name := range []string{"A", "I", "a", "i", "q"} {
				s.Inodes[4].Entries = append(s.Inodes[4].Entries, api.Entry{Name: name, Num: 4})
			}
		},
	}
}

// P19.1: states that may not be: ErrLayoutState, and Size 0.
func TestStatesThatMayNotBe(t *testing.T) {
	if !model.May(aState()) {
		t.Fatal("the state that is turned may not be itself")
	}
	for what, turn := range wrongStates() {
		s := turned(turn)
		if b, e := layout.Put(s); b != "" || e != api.ErrLayoutState {
			t.Errorf("%s: Put: %q, error %d", what, b, e)
		}
		if size := layout.Size(s); size != 0 {
			t.Errorf("%s: Size: %d", what, size)
		}
	}
}

// R1: states that are far too great are refused, in little time.
func TestGreatStatesThatMayNotBe(t *testing.T) {
	many, _ := model.New(8)
	for num := 2; num < 100_000; num++ {
		many.Inodes = append(many.Inodes, api.Inode{Num: num})
	}
	names := turned(func(s *api.State) { s.Inodes[4].Entries = slices.Repeat(s.Inodes[4].Entries, 100_000) })
	open := turned(func(s *api.State) { s.Open = slices.Repeat(s.Open, 100_000) })
	bytes := turned(func(s *api.State) { s.Inodes[2].Data = strings.Repeat("x", 1<<24) })
	for _, s := range []api.State{many, names, open, bytes} {
		if b, e := layout.Put(s); b != "" || e != api.ErrLayoutState || layout.Size(s) != 0 {
			t.Errorf("%d bytes, error %d", len(b), e)
		}
	}
}
