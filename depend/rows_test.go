package depend_test

import (
	"slices"
	"strings"
	"sync"
	"testing"

	"concourse/api"
	"concourse/depend"
)

// someName is a name, often of one bucket (a, i, q, y, A have it).
func (r *row) someName() string {
	return pick(r, "a", "a", "i", "q", "y", "A", "b", "c", "d", "ab", "é", "日本", "123456789012")
}

// somePath is mostly a path that is there, with at times a name behind it.
func (r *row) somePath(w *record) string {
	p := pick(r, w.paths()...)
	if r.below(2) == 0 || p == "" {
		p += "/" + r.someName()
	}
	if r.below(40) == 0 {
		p = pick(r, "", "/", "a", p+"/", "/..", "/1234567890123", strings.Repeat("/a", 5))
	}
	return p
}

// someCall is any call, mostly one that turns something; fields that its kind does not use are filled too.
func (r *row) someCall(w *record) api.Call {
	c := api.Call{Kind: r.below(18), Core: r.below(len(w.made)), Fd: r.below(4), Off: r.below(258), Num: r.below(258)}
	if r.below(3) > 0 {
		c.Kind = pick(r, api.CallCreate, api.CallCreate, api.CallMkdir, api.CallMkdir, api.CallOpen, api.CallOpen, api.CallRename, api.CallRename, api.CallLink, api.CallWrite)
	}
	if r.below(2) == 0 {
		c.Fd = 0
	}
	c.Path, c.Path2 = r.somePath(w), r.somePath(w)
	c.Data = strings.Repeat("x", r.below(3)*r.below(20))
	if r.below(50) == 0 {
		c.Core = pick(r, -1, len(w.made), 8)
	}
	return c
}

// someRow is a row of calls that are drawn one by one, at the state that each finds.
func someRow(d *desk, g *row, calls int) *rowOf {
	d.t.Helper()
	x := &rowOf{t: d.t, from: d.s}
	for range calls {
		c := g.someCall(d.w)
		r, keys := d.do(c)
		x.cs, x.answers, x.keys = append(x.cs, c), append(x.answers, r), append(x.keys, keys)
	}
	return x
}

// P15.1: at states that rows of calls lead to each call has the keys that the record tells, every kind of call many times.
func TestRowsOfCalls(t *testing.T) {
	g := row(15)
	with, without := map[int]int{}, map[int]int{}
	for round := range 300 {
		x := someRow(newDesk(t, 1+round%api.MaxCores), &g, 120)
		for place, c := range x.cs {
			if len(x.keys[place]) > 0 {
				with[c.Kind]++
			} else {
				without[c.Kind]++
			}
		}
	}
	for kind := range 18 {
		has := turns(api.Call{Kind: kind, Data: "x"}) && kind < 17
		if has && with[kind] < 50 || !has && with[kind] > 0 || without[kind] < 50 {
			t.Errorf("kind %d: %d with keys, %d without", kind, with[kind], without[kind])
		}
	}
}

// P15.2, P15.3: of rows of calls each Closure is as the record tells it, is Closed and the least, and its calls alone
// answer what they answered.
func TestClosuresOfRows(t *testing.T) {
	g := row(51)
	left := 0
	for round := range 300 {
		d := newDesk(t, 1+round%api.MaxCores)
		if round%2 == 0 {
			someRow(d, &g, 40)
		}
		x := someRow(d, &g, 40)
		for range 3 {
			var want []int
			for range g.below(4) {
				want = append(want, g.below(44)-2)
			}
			in := x.least(want)
			x.closure(want, drawn(in))
			for place := range in {
				if !in[place] && len(x.keys[place]) > 0 {
					left++
				}
			}
		}
	}
	if left < 5000 {
		t.Errorf("only %d calls with keys were left out", left)
	}
}

// P15.2, P15.3: of each part of short rows Closed tells what the record does, and the calls of the closed ones alone
// answer what they answered; Closure is what all closed parts that have the wanted have in common.
func TestEveryPartOfShortRows(t *testing.T) {
	const calls = 8
	g := row(115)
	seen := [2]int{}
	for round := range 60 {
		d := newDesk(t, 2+round%4)
		someRow(d, &g, 15)
		x := someRow(d, &g, calls)
		common := [calls][]bool{}
		for bits := range 1 << calls {
			in := make([]bool, calls)
			for place := range in {
				in[place] = bits>>place&1 == 1
			}
			is := x.isClosed(in)
			x.closed(drawn(in), is)
			if !is {
				seen[0]++
				continue
			}
			seen[1]++
			for place := range in {
				if in[place] {
					common[place] = both(common[place], in)
				}
			}
		}
		for place, want := range common {
			if got := depend.Closure(x.from, x.cs, []int{place}); !slices.Equal(got, want) {
				t.Fatalf("Closure of %d: %s, want %s, of %+v", place, drawn(got), drawn(want), x.cs)
			}
		}
	}
	if seen[0] < 1000 || seen[1] < 1000 {
		t.Error(seen)
	}
}

// both is what two parts have in common; nil has all.
func both(a, b []bool) []bool {
	if a == nil {
		return slices.Clone(b)
	}
	for place := range a {
		a[place] = a[place] && b[place]
	}
	return a
}

// P15.3: an Open of a closed part takes the descriptor that it took, though others of that file and of other cores are
// not done; a Create gives the number that it gave.
func TestAloneTakesTheSame(t *testing.T) {
	d := newDesk(t, 3)
	x := rowFrom(d, create("/a"), by(1, create("/b")), by(1, opening("/b")), opening("/a"), by(2, opening("/b")), opening("/a"), by(1, closing(0)), by(1, opening("/b")), closing(0), opening("/a"), create("/c"))
	x.closure([]int{9}, "x--x-x--xx-")
	x.closure([]int{10}, "x--x-x--xxx")
	x.closure([]int{4}, "-xx-x------")
	x.closure([]int{7}, "-xx-x-xx---")
	if x.answers[9].Fd != 0 || x.answers[5].Fd != 1 || x.answers[7].Fd != 0 {
		t.Errorf("%+v", x.answers)
	}
}

// R5: the calls answer the same again, and from several goroutines at one time.
func TestCallsAtOneTime(t *testing.T) {
	g := row(5)
	x := someRow(newDesk(t, 3), &g, 30)
	want := drawn(x.least([]int{29, 20}))
	var group sync.WaitGroup
	for range 8 {
		group.Go(func() {
			for range 20 {
				in := depend.Closure(x.from, x.cs, []int{29, 20})
				if drawn(in) != want || !depend.Closed(x.from, x.cs, in) || told(depend.Keys(x.from, x.cs[0])) != told(x.keys[0]) {
					t.Error("another answer")
				}
				if depend.Touch(x.keys[0], x.keys[1]) != plainTouch(x.keys[0], x.keys[1]) {
					t.Error("another answer of Touch")
				}
			}
		})
	}
	group.Wait()
}
