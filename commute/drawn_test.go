package commute_test

import (
	"testing"

	"concourse/api"
	"concourse/memfs"
)

// P24.1, P24.2: drawn calls of each two kinds, at states that drawn calls lead to.
func TestDrawnPairs(t *testing.T) {
	t.Parallel()
	r := row(24)
	commuted, apart := [2]int{}, [2]int{}
	for round := range 60 {
		s := r.someState(t, 2+round%7, r.below(50))
		for a := range kinds {
			for b := range kinds {
				one := r.below(len(s.Made))
				other := (one + 1 + r.below(len(s.Made)-1)) % len(s.Made)
				c, d := wantPlain(t, s, r.someCall(s, a, one), r.someCall(s, b, other))
				count(&commuted, c)
				count(&apart, d)
			}
		}
	}
	if commuted[0] < 100 || min(commuted[1], apart[0], apart[1]) < 1000 {
		t.Errorf("%d commute, %d do not; %d are apart, %d are not", commuted[1], commuted[0], apart[1], apart[0])
	}
}

// count counts a yes or a no.
func count(all *[2]int, is bool) {
	if is {
		all[1]++
	} else {
		all[0]++
	}
}

// closeCalls are calls on few names and one file, so that many of them meet.
func (r *row) closeCalls(core, kind int) api.Call {
	paths := []string{"/a", "/a", "/a", "/i", "/q", "/b", "/d", "/d/a", "/d/i", "/d/s", "/d/s/a", "/e", "/e/a", "/", "/a/b", "/n", "/e/n"}
	c := api.Call{Kind: kind, Core: core, Fd: oneOf(r, 0, 0, 0, 1, 2), Path: oneOf(r, paths...), Path2: oneOf(r, paths...)}
	switch kind {
	case api.CallRead:
		c.Off, c.Num = 8*r.below(13), oneOf(r, 0, 1, 8, 9, 40, 256)
	case api.CallWrite:
		c.Off, c.Data = 8*r.below(12), fill('w', oneOf(r, 0, 1, 8, 9, 40))
	case api.CallTruncate:
		c.Num = 80
	}
	return c
}

// P24.1, P24.2: drawn calls of each two kinds that go for the same, so that each two that may break a point do.
func TestClosePairs(t *testing.T) {
	t.Parallel()
	s := newState(t, 2, create("/a"), create("/b"), mkdir("/d"), mkdir("/d/s"), mkdir("/e"), link("/a", "/d/a"), opening("/a"), by(1, opening("/a")), opening("/b"), by(1, opening("/b")), write(0, 0, fill('w', 80)))
	r := row(42)
	for a := range kinds {
		for b := range kinds {
			commuted, apart := [2]int{}, [2]int{}
			for range 140 {
				c, d := wantPlain(t, s, r.closeCalls(0, a), r.closeCalls(1, b))
				count(&commuted, c)
				count(&apart, d)
			}
			if commuted[1] == 0 || (apart[1] > 0) != (max(a, b) < api.CallFsync) {
				t.Errorf("%s and %s: %d commute, %d are apart", kindName(a), kindName(b), commuted[1], apart[1])
			}
			if apart[0] == 0 && mayMeet(a, b) {
				t.Errorf("%s and %s are always apart", kindName(a), kindName(b))
			}
		}
	}
}

// mayMeet tells whether calls of two kinds may turn what the other looks at.
func mayMeet(a, b int) bool {
	turns := func(kind int) bool { return kind < api.CallOpen || kind >= api.CallLink && kind <= api.CallRename }
	named := func(kind int) bool {
		return kind != api.CallSync && kind != api.CallFsync && (kind < api.CallClose || kind > api.CallSize)
	}
	bytes := func(kind int) bool { return kind >= api.CallClose && kind <= api.CallSize || kind == api.CallStat }
	writes := func(kind int) bool { return kind == api.CallWrite || kind == api.CallTruncate }
	return turns(a) && named(b) || turns(b) && named(a) || writes(a) && bytes(b) || writes(b) && bytes(a)
}

// P24.1, P24.2: T2: of two calls that commute and are apart neither writes a word of layer 22 that the other touches.
func TestApartDoNotMeet(t *testing.T) {
	t.Parallel()
	r := row(2)
	met := 0
	for range 400 {
		s := r.someState(t, 2, r.below(30))
		for range 10 {
			a, b := r.someCall(s, r.below(kinds), 0), r.someCall(s, r.below(kinds), 1)
			if _, apart := wantPlain(t, s, a, b); apart && plainCommute(s, a, b) {
				met++
				wantNoMeeting(t, &r, s, a, b)
			}
		}
	}
	if met < 1000 {
		t.Errorf("only %d", met)
	}
}

// wantNoMeeting does two calls step by step, by drawn picks.
func wantNoMeeting(t *testing.T, r *row, s api.State, a, b api.Call) {
	t.Helper()
	f, _ := memfs.Load(s)
	f.Begin(a)
	f.Begin(b)
	for f.Busy(0) || f.Busy(1) {
		f.Step(r.below(2))
	}
	for _, x := range f.Trace(0) {
		for _, y := range f.Trace(1) {
			if x.At == y.At && (x.Write || y.Write) {
				t.Fatalf("word %d: %+v, %+v, at\n%s", x.At, a, b, show(s))
			}
		}
	}
}
