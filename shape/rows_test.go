package shape_test

import (
	"strings"
	"sync"
	"testing"

	"concourse/api"
	"concourse/model"
	"concourse/shape"
)

// someName is a name; among them are such as sort otherwise behind a stroke than ahead of it.
func (r *row) someName() string {
	return pick(r, "a", "a", "b", "c", "a b", "a-", "a.", "a0", "aa", "A", " ", "-", "é", "日本", "z 3 -", "123456789012")
}

// somePath is mostly a path that is there, with at times a name behind it.
func (r *row) somePath(w *record) string {
	there := w.paths()
	names := pick(r, there...)
	if r.below(2) == 0 {
		names = append(names[:len(names):len(names)], r.someName())
	}
	return "/" + strings.Join(names, "/")
}

// someData is up to 20 bytes, and at times up to 256.
func (r *row) someData() string {
	data := make([]byte, pick(r, 0, 1, r.below(20), r.below(20), r.below(257)))
	for at := range data {
		data[at] = byte(r.below(256))
	}
	return string(data)
}

// someCall is a call that may turn something, of a core that there is.
func (r *row) someCall(w *record) api.Call {
	c := api.Call{Core: r.below(len(w.made)), Fd: r.below(4), Off: r.below(30), Num: r.below(60)}
	c.Kind = pick(r, api.CallCreate, api.CallCreate, api.CallMkdir, api.CallMkdir, api.CallMkdir, api.CallOpen, api.CallOpen, api.CallClose,
		api.CallWrite, api.CallTruncate, api.CallLink, api.CallUnlink, api.CallRmdir, api.CallRename, api.CallRename, api.CallRename)
	c.Path, c.Path2, c.Data = r.somePath(w), r.somePath(w), r.someData()
	return c
}

// P14.1: states that rows of calls lead to are told as the record has them, line by line.
func TestRowsOfCalls(t *testing.T) {
	g := row(14)
	seen := map[byte]int{}
	deep := 0
	for round := range 60 {
		d := newDesk(t, 1+round%api.MaxCores)
		for range 60 {
			d.do(g.someCall(d.w))
			d.do(g.someCall(d.w))
			d.look()
			for _, line := range append(d.w.files(), d.w.behind()...) {
				seen[line[0]]++
			}
			for _, names := range d.w.paths() {
				deep = max(deep, len(names))
			}
		}
	}
	for _, kind := range []byte("dfuom") {
		if seen[kind] < 500 {
			t.Errorf("lines %c: %d only", kind, seen[kind])
		}
	}
	if deep < api.MaxDepth+2 {
		t.Errorf("no path is deeper than %d", deep)
	}
}

// P14.2: of states that rows of calls lead to just those are one that a record tells so.
func TestSameOfRows(t *testing.T) {
	g := row(41)
	var states []api.State
	var texts []string
	for range 12 {
		d := newDesk(t, 2)
		for range 25 {
			d.do(pick(&g, create("/a"), create("/b"), mkdir("/d"), opening("/a"), closing(0), unlink("/a"), rename("/a", "/b"), write(0, 0, "x")))
			states = append(states, d.s)
			texts = append(texts, strings.Join(append(d.w.files(), d.w.behind()...), "\n"))
		}
	}
	same, unlike := 0, 0
	for i := range states {
		for j := range states {
			want := texts[i] == texts[j]
			if got := shape.Same(states[i], states[j]); got != want {
				t.Fatalf("Same: %t, of\n%s\nand\n%s", got, texts[i], texts[j])
			}
			if want && i != j {
				same++
			} else if !want {
				unlike++
			}
		}
	}
	if same < 100 || unlike < 1000 {
		t.Errorf("%d are one, %d are not", same, unlike)
	}
}

// P14.1: calls in unlike rows that lead to one state lead to one text.
func TestOneStateByTwoRows(t *testing.T) {
	one, two := newDesk(t, 2), newDesk(t, 2)
	one.ok(create("/a"), by(1, mkdir("/d")), link("/a", "/d/a"), opening("/a"), write(0, 0, "xy"), unlink("/a"))
	two.ok(by(1, mkdir("/d")), create("/d/a"), opening("/d/a"), write(0, 1, "y"), link("/d/a", "/z"), write(0, 0, "x"), unlink("/z"))
	if !shape.Same(one.s, two.s) {
		t.Error("not one")
	}
}

// R5: the calls answer the same again, and from several goroutines at one time.
func TestCallsAtOneTime(t *testing.T) {
	s := aState()
	of, _ := shape.Of(s)
	files, _ := shape.Files(s)
	other, _ := model.New(3)
	var group sync.WaitGroup
	for range 8 {
		group.Go(func() {
			for range 100 {
				gotOf, e := shape.Of(s)
				gotFiles, e2 := shape.Files(s)
				if gotOf != of || gotFiles != files || e != api.OK || e2 != api.OK || !shape.Same(s, s) || shape.Same(s, other) {
					t.Error("another answer")
				}
			}
		})
	}
	group.Wait()
}
