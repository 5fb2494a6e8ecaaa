package shape_test

import (
	"slices"
	"strings"
	"testing"
	"unsafe"

	"concourse/api"
	"concourse/model"
	"concourse/shape"
)

// roomy gives a state whose lists have spare room, with something in it.
func roomy(s api.State) api.State {
	x := api.Inode{Num: 99, Dir: true, Data: "spare", Entries: []api.Entry{{Name: "spare", Num: 99}}}
	s = deepCopy(s)
	for at := range s.Inodes {
		own := &s.Inodes[at].Entries
		*own = append(*own, api.Entry{Name: "spare", Num: 98}, api.Entry{Name: "room", Num: 97}, api.Entry{})[:len(*own)]
	}
	s.Inodes = append(s.Inodes, x, x, x)[:len(s.Inodes)]
	s.Open = append(s.Open, api.Desc{Core: 7, Fd: 7, Num: 7}, api.Desc{Num: 8}, api.Desc{})[:len(s.Open)]
	s.Made = append(s.Made, 71, 72, 73)[:len(s.Made)]
	return s
}

// showAll is a state as a text, with what stands in its spare room.
func showAll(s api.State) string {
	s.Inodes, s.Open, s.Made = slices.Clone(s.Inodes[:cap(s.Inodes)]), s.Open[:cap(s.Open)], s.Made[:cap(s.Made)]
	for at, x := range s.Inodes {
		s.Inodes[at].Entries = x.Entries[:cap(x.Entries)]
	}
	return show(s)
}

// R4: what is handed in is not changed, its spare room neither, whether or not the state may be; nor does that room
// hang on what is answered.
func TestHandedInStays(t *testing.T) {
	root, _ := model.New(2)
	for _, s := range []api.State{aState(), root, {}, chain(9, 3), turned(func(s *api.State) { s.Made[0] = 1 })} {
		one, two := roomy(s), roomy(s)
		before := showAll(one)
		files, e := shape.Files(one)
		of, e2 := shape.Of(one)
		same := shape.Same(one, two)
		if showAll(one) != before || showAll(two) != before {
			t.Errorf("what was handed in is changed:\n%s\nwas\n%s", showAll(one), before)
		}
		if same != model.May(s) || shape.Same(s, one) != same || shape.Same(two, s) != same {
			t.Errorf("Same: %t, of\n%s", same, before)
		}
		plainFiles, plainE := shape.Files(s)
		plainOf, plainE2 := shape.Of(s)
		if files != plainFiles || of != plainOf || e != plainE || e2 != plainE2 {
			t.Errorf("the spare room is told:\n%s", of)
		}
	}
}

// meet tells whether a text lies on bytes of another.
func meet(a, b string) bool {
	if a == "" || b == "" {
		return false
	}
	from, other := uintptr(unsafe.Pointer(unsafe.StringData(a))), uintptr(unsafe.Pointer(unsafe.StringData(b)))
	return from < other+uintptr(len(b)) && other < from+uintptr(len(a))
}

// R4: texts that are answered are new ones, neither the state's nor each other's.
func TestTextsAreNew(t *testing.T) {
	root, _ := model.New(1)
	for _, s := range []api.State{aState(), root} {
		var answers []string
		for range 2 {
			files, _ := shape.Files(s)
			of, _ := shape.Of(s)
			answers = append(answers, files, of)
		}
		for _, x := range s.Inodes {
			for _, text := range answers {
				if meet(text, x.Data) || slices.ContainsFunc(x.Entries, func(e api.Entry) bool { return meet(text, e.Name) }) {
					t.Errorf("an answer lies on a text that was handed in: %q", text)
				}
			}
		}
		for at, one := range answers {
			for _, two := range answers[at+1:] {
				if meet(one, two) {
					t.Errorf("two answers share memory: %q", strings.Clone(one))
				}
			}
		}
	}
}

// R4, R5: what was answered stays, and is not kept, whatever becomes of the state.
func TestAnswersStay(t *testing.T) {
	s := aState()
	of, _ := shape.Of(s)
	was := strings.Clone(of)
	s.Inodes[0].Entries[0].Name = "A"
	s.Inodes[2].Data = "other"
	s.Made[2] = 5
	if of != was {
		t.Error("what was answered is changed")
	}
	files := []string{"d / 1", "f /A 3 6f74686572", "f /b 3 6f74686572", "d /d 2", "d /d/e 10", "f /d/e/b 3 6f74686572", "f /d/e/c 4 -"}
	wantLines(t, s, files, append(files, "u 11 68656c64", "o 0 1 3", "o 1 0 3", "o 1 3 11", "m 2 3 5"))
}
