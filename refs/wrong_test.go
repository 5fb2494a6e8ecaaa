package refs_test

import (
	"math"
	"slices"
	"testing"

	"concourse/api"
	"concourse/arena"
	"concourse/refs"
)

// wantUntouched fails if a word of a made arena was written to or any access noted.
func wantUntouched(t *testing.T, a *arena.Arena) {
	t.Helper()
	for core := range a.Cores() {
		if trace := a.Trace(core); len(trace) != 0 {
			t.Errorf("core %d touched %v", core, trace)
		}
	}
	for at, v := range allWords(a) {
		if v != ownNumber(at) {
			t.Errorf("word %d is %d", at, v)
		}
	}
}

// P6.1: counts that are refused; nothing is touched.
func TestNewRefuses(t *testing.T) {
	a := makeArena(t, 200, 2) // 3 objects have 20 words
	rows := [][2]int{
		{-1, 3}, {-2, 1}, {math.MinInt, 3}, {math.MinInt + 1, 64}, {-1, 0}, {-1, 65},
		{0, 0}, {0, -1}, {0, -2}, {0, -3}, {0, -64}, {0, math.MinInt}, {0, 65}, {0, 66}, {0, 1000}, {0, math.MaxInt}, {0, 1 << 62},
		{181, 3}, {189, 1}, {199, 1}, {200, 1}, {201, 1}, {0, 49}, {1, 48}, {0, 64},
		{math.MaxInt, 3}, {math.MaxInt - 10, 3}, {math.MaxInt - 20, 3}, {1 << 62, 1}, {1 << 32, 1}, {math.MaxInt, math.MaxInt},
	}
	for _, c := range rows {
		if r, e := refs.New(a, c[0], c[1]); r != nil || e != api.ErrRefsForm {
			t.Errorf("from %d, %d objects: error %d", c[0], c[1], e)
		}
		if r, e := refs.New(nil, c[0], c[1]); r != nil || e != api.ErrNil {
			t.Errorf("no arena, from %d, %d objects: error %d", c[0], c[1], e)
		}
	}
	if r, e := refs.New(nil, 0, 3); r != nil || e != api.ErrNil {
		t.Errorf("no arena: error %d", e)
	}
	wantUntouched(t, a)
	for _, c := range [][2]int{{180, 3}, {188, 1}, {0, 48}} {
		if r, e := refs.New(a, c[0], c[1]); r == nil || e != api.OK {
			t.Errorf("from %d, %d objects: error %d", c[0], c[1], e)
		}
	}
}

// P6.1: 0 and 65 objects and others outside are refused also where the arena has room for them.
func TestHowManyObjects(t *testing.T) {
	a := makeArena(t, api.MaxArena, 3)
	for _, objects := range []int{0, 65, 66, 128, 1000, -1, -2, -3, -1000} {
		if r, e := refs.New(a, 0, objects); r != nil || e != api.ErrRefsForm {
			t.Errorf("%d objects: error %d", objects, e)
		}
	}
	wantUntouched(t, a)
	for _, objects := range []int{1, 64} {
		if r, e := refs.New(a, 0, objects); r == nil || e != api.OK {
			t.Errorf("%d objects: error %d", objects, e)
		}
	}
}

// wrong are numbers of things, of which there are n, that are none.
func wrong(n int) []int {
	return []int{-1, -2, -64, n, n + 1, n + 64, 1 << 32, math.MinInt, math.MinInt + 1, math.MaxInt, math.MaxInt - 1}
}

// P6.1, R6: cores and objects that there are not, below 0 and behind the last; no word changes, nothing is noted.
func TestCoresAndObjectsThatThereAreNot(t *testing.T) {
	for _, c := range [][2]int{{1, 1}, {2, 3}, {api.MaxCores, 64}} {
		cores, objects := c[0], c[1]
		b := makeBook(t, cores, objects, 7, 9)
		b.inc(0, 0)
		b.dec(cores-1, objects-1)
		b.flush(0)
		b.inc(0, objects-1)
		words := allWords(b.a)
		for _, core := range wrong(cores) {
			for _, obj := range append(wrong(objects), 0, objects-1) {
				if e, f := b.r.Inc(core, obj), b.r.Dec(core, obj); e != api.ErrRefsForm || f != api.ErrRefsForm {
					t.Errorf("core %d, object %d: errors %d, %d", core, obj, e, f)
				}
			}
			if e := b.r.Flush(core); e != api.ErrRefsForm {
				t.Errorf("Flush(%d): error %d", core, e)
			}
		}
		for _, obj := range wrong(objects) {
			for core := range cores {
				if e, f := b.r.Inc(core, obj), b.r.Dec(core, obj); e != api.ErrRefsObject || f != api.ErrRefsObject {
					t.Errorf("core %d, object %d: errors %d, %d", core, obj, e, f)
				}
			}
			global, e := b.r.Global(obj)
			total, f := b.r.Total(obj)
			if global != 0 || total != 0 || e != api.ErrRefsObject || f != api.ErrRefsObject {
				t.Errorf("object %d: Global %d, error %d, Total %d, error %d", obj, global, e, total, f)
			}
		}
		for core := range cores {
			if trace := b.a.Trace(core); len(trace) != 0 {
				t.Errorf("refused calls touched %v as core %d", trace, core)
			}
		}
		if !slices.Equal(allWords(b.a), words) {
			t.Error("a refused call wrote")
		}
		b.want()
		b.turn()
		b.turn()
		b.close()
	}
}

// R3: no counts.
func TestNilRefs(t *testing.T) {
	var none *refs.Refs
	for _, core := range []int{0, 1, -1, 8, math.MaxInt} {
		for _, obj := range []int{0, 63, -1, 64, math.MinInt} {
			global, e := none.Global(obj)
			total, f := none.Total(obj)
			if global != 0 || total != 0 || e != api.ErrNil || f != api.ErrNil {
				t.Errorf("object %d: Global %d, error %d, Total %d, error %d", obj, global, e, total, f)
			}
			if none.Inc(core, obj) != api.ErrNil || none.Dec(core, obj) != api.ErrNil || none.Flush(core) != api.ErrNil {
				t.Errorf("core %d, object %d: not ErrNil", core, obj)
			}
		}
	}
	if len(none.Dead()) != 0 || none.Epoch() != 0 {
		t.Errorf("Dead %v, Epoch %d", none.Dead(), none.Epoch())
	}
}

// R1: counts that New did not make have no core and no object; an arena that was not made has no room.
func TestRefsThatWereNotMade(t *testing.T) {
	r := new(refs.Refs)
	if e, f, g := r.Inc(0, 0), r.Dec(0, 0), r.Flush(0); e != api.ErrRefsForm || f != api.ErrRefsForm || g != api.ErrRefsForm {
		t.Errorf("errors %d, %d, %d", e, f, g)
	}
	if n, e := r.Global(0); n != 0 || e != api.ErrRefsObject {
		t.Errorf("Global %d, error %d", n, e)
	}
	if n, e := r.Total(0); n != 0 || e != api.ErrRefsObject {
		t.Errorf("Total %d, error %d", n, e)
	}
	if len(r.Dead()) != 0 || r.Epoch() != 0 {
		t.Errorf("Dead %v, Epoch %d", r.Dead(), r.Epoch())
	}
	if r, e := refs.New(new(arena.Arena), 0, 1); r != nil || e != api.ErrRefsForm {
		t.Errorf("a bare arena: error %d", e)
	}
}

// R1: whatever somebody stores into the counts' words, the calls end, and touch nothing outside.
func TestWordsThatSomebodyStoredTo(t *testing.T) {
	for seed := range 40 {
		g := row(seed)
		cores, objects := 1+g.below(api.MaxCores), 1+g.below(64)
		b := makeBook(t, cores, objects, 10, 10)
		for range 40 {
			for at := 10; at < 10+wordsOf(cores, objects); at++ {
				v := []int{0, 1, 2, 3, -1, math.MaxInt, math.MinInt, g.below(1 << 30)}[g.below(8)]
				b.a.Store(0, at, v)
			}
			core, obj := g.below(cores), g.below(objects)
			for _, e := range []api.Errno{b.r.Inc(core, obj), b.r.Dec(core, obj), b.r.Flush(core)} {
				if e != api.OK {
					t.Errorf("error %d", e)
				}
			}
			b.r.Global(obj)
			b.r.Total(obj)
			if dead := b.r.Dead(); !slices.IsSorted(dead) || len(dead) > objects {
				t.Errorf("Dead %v", dead)
			}
			b.r.Epoch()
		}
		b.close()
	}
}
