package depend_test

import (
	"math"
	"slices"
	"strings"
	"testing"

	"concourse/api"
	"concourse/depend"
	"concourse/model"
)

// part is a list of bools as a text tells it: an x for each that is in.
func part(text string) []bool {
	in := []bool{}
	for _, r := range text {
		in = append(in, r == 'x')
	}
	return in
}

// drawn is the text of a list of bools.
func drawn(in []bool) string {
	var text strings.Builder
	for _, is := range in {
		if is {
			text.WriteByte('x')
		} else {
			text.WriteByte('-')
		}
	}
	return text.String()
}

// rowOf is a row of calls from a state on, with what they answer and the keys that they have, by the record.
type rowOf struct {
	t       *testing.T
	from    api.State
	cs      []api.Call
	answers []api.Result
	keys    [][]api.Key
}

// rowFrom does calls from where a desk is.
func rowFrom(d *desk, cs ...api.Call) *rowOf {
	d.t.Helper()
	x := &rowOf{t: d.t, from: d.s, cs: cs}
	for _, c := range cs {
		r, keys := d.do(c)
		x.answers, x.keys = append(x.answers, r), append(x.keys, keys)
	}
	return x
}

// isClosed tells of each two calls with keys that touch whether the earlier is in, if the later is.
func (x *rowOf) isClosed(in []bool) bool {
	for later := range x.cs {
		for earlier := range later {
			if in[later] && !in[earlier] && plainTouch(x.keys[earlier], x.keys[later]) {
				return false
			}
		}
	}
	return true
}

// least is the part that has the wanted, and takes in what it needs till nothing is missing.
func (x *rowOf) least(want []int) []bool {
	in := make([]bool, len(x.cs))
	for _, place := range want {
		if place >= 0 && place < len(in) {
			in[place] = true
		}
	}
	for again := true; again; {
		again = false
		for later := range in {
			for earlier := range later {
				if in[later] && !in[earlier] && plainTouch(x.keys[earlier], x.keys[later]) {
					in[earlier], again = true, true
				}
			}
		}
	}
	return in
}

// closure fails unless Closure has just this part, that is closed, and none but the wanted can be left out.
func (x *rowOf) closure(want []int, text string) {
	x.t.Helper()
	got := depend.Closure(x.from, x.cs, want)
	if drawn(got) != text || drawn(x.least(want)) != text {
		x.t.Fatalf("Closure of %v: %s, want %s, by the record %s, of %+v", want, drawn(got), text, drawn(x.least(want)), x.cs)
	}
	if !depend.Closed(x.from, x.cs, got) {
		x.t.Fatalf("Closure of %v is not closed: %s, of %+v", want, drawn(got), x.cs)
	}
	for place, is := range got {
		if is && !slices.Contains(want, place) {
			less := slices.Clone(got)
			less[place] = false
			if depend.Closed(x.from, x.cs, less) {
				x.t.Fatalf("Closure of %v: %s, but %d can be left out, of %+v", want, text, place, x.cs)
			}
		}
	}
	x.alone(got)
}

// closed fails unless Closed tells this of a part, as the record does.
func (x *rowOf) closed(text string, want bool) {
	x.t.Helper()
	in := part(text)
	if got := depend.Closed(x.from, x.cs, in); got != want || x.isClosed(in) != want {
		x.t.Fatalf("Closed of %s: %t, want %t, by the record %t, of %+v", text, got, want, x.isClosed(in), x.cs)
	}
	if want {
		x.alone(in)
	}
}

// alone does the calls of a closed part that have keys, and fails unless each answers what it answered (P15.3).
func (x *rowOf) alone(in []bool) {
	x.t.Helper()
	s := x.from
	for place, c := range x.cs {
		if !in[place] || len(x.keys[place]) == 0 {
			continue
		}
		var r api.Result
		if s, r = model.Do(s, c); !sameResult(r, x.answers[place]) {
			x.t.Fatalf("call %d of %s alone: %+v, it was %+v, of %+v", place, drawn(in), r, x.answers[place], x.cs)
		}
	}
}

func sameResult(a, b api.Result) bool {
	return a.Code == b.Code && a.Fd == b.Fd && a.Num == b.Num && a.Dir == b.Dir && a.Data == b.Data && slices.Equal(a.Names, b.Names)
}

// P15.2: no calls: closed, and nothing to want.
func TestNoCalls(t *testing.T) {
	d := newDesk(t, 1)
	for _, cs := range [][]api.Call{nil, {}} {
		if !depend.Closed(d.s, cs, nil) || !depend.Closed(d.s, cs, []bool{}) || depend.Closed(d.s, cs, []bool{false}) || depend.Closed(d.s, cs, []bool{true}) {
			t.Error("Closed of no calls")
		}
		for _, want := range [][]int{nil, {}, {0}, {-1, 0, 1, math.MaxInt, math.MinInt}} {
			if got := depend.Closure(d.s, cs, want); len(got) != 0 {
				t.Errorf("Closure of no calls: %v", got)
			}
		}
	}
}

// P15.2: one call: closed, whether in or not.
func TestOneCall(t *testing.T) {
	for _, c := range []api.Call{create("/a"), list("/"), opening("/x"), {Kind: 99}} {
		x := rowFrom(newDesk(t, 1), c)
		x.closed("x", true)
		x.closed("-", true)
		x.closure([]int{0}, "x")
		x.closure(nil, "-")
	}
}

// P15.2: 'in' that is too short or too long is not closed, whatever it has.
func TestInOfAnotherLength(t *testing.T) {
	x := rowFrom(newDesk(t, 2), create("/a"), by(1, create("/b")), list("/"))
	for _, text := range []string{"", "x", "-", "xx", "--", "xxxx", "----", "xxx-", "---x", strings.Repeat("x", 300)} {
		if depend.Closed(x.from, x.cs, part(text)) {
			t.Errorf("closed: %q", text)
		}
	}
	if depend.Closed(x.from, x.cs, nil) || !depend.Closed(x.from, x.cs, part("xxx")) || !depend.Closed(x.from, x.cs, part("---")) {
		t.Error("as long as the calls")
	}
}

// P15.2: places that are wanted twice count once, those outside the list are let go.
func TestWantedPlaces(t *testing.T) {
	x := rowFrom(newDesk(t, 3), create("/a"), by(1, create("/b")), by(2, create("/c")), by(1, create("/d")))
	x.closure([]int{3}, "-x-x")
	x.closure([]int{3, 3, 3, 1}, "-x-x")
	x.closure([]int{4, -1, 3, 400, math.MinInt, math.MaxInt, -4}, "-x-x")
	x.closure([]int{4, -1}, "----")
	x.closure([]int{2, 0}, "x-x-")
	x.closure([]int{3, 2, 1, 0}, "xxxx")
	x.closure(nil, "----")
	x.closure([]int{}, "----")
}

// P15.2: a core's calls hang on each other, in their row; those that have no keys hang on none, and none on them.
func TestCallsOfOneCore(t *testing.T) {
	x := rowFrom(newDesk(t, 1), create("/a"), list("/"), opening("/a"), create("/a"), write(0, 0, "x"), write(0, 0, ""), closing(0), closing(0))
	x.closure([]int{0}, "x-------")
	x.closure([]int{2}, "x-x-----")
	x.closure([]int{6}, "x-x-x-x-")
	x.closure([]int{7, 5}, "-----x-x")
	x.closure([]int{1, 3, 4}, "xxxxx---")
	x.closed("x-x-----", true)
	x.closed("xxx-----", true)
	x.closed("-x---x-x", true)
	x.closed("--x-----", false)
	x.closed("x-x---x-", false)
	x.closed("x---x-x-", false)
	x.closed("xxxxxxxx", true)
}

// P15.2: calls of several cores hang on each other by what they turn, open and go through.
func TestCallsOfSeveralCores(t *testing.T) {
	d := newDesk(t, 8)
	x := rowFrom(d, mkdir("/d"), by(1, mkdir("/e")), by(2, create("/d/a")), by(3, create("/d/i")), by(4, create("/d/b")), by(5, rename("/d/a", "/e/c")), by(6, opening("/d/b")), by(7, rmdir("/e")))
	x.closure([]int{1}, "-x------")
	x.closure([]int{2}, "x-x-----")
	x.closure([]int{3}, "x-xx----")
	x.closure([]int{4}, "x---x---")
	x.closure([]int{5}, "xxxx-x--")
	x.closure([]int{6}, "x---x-x-")
	x.closure([]int{7}, "-------x")
	x.closure([]int{6, 1}, "xx--x-x-")
	x.closed("xx--x---", true)
	x.closed("xx-x----", false)
	x.closed("-x--x---", false)
	x.closed("-x------", true)
	x.closed("xx---x--", false)
}

// P15.2: directories that two calls go through let them apart; one that is renamed, made or removed holds those behind
// it that go through it.
func TestCallsThroughOneDirectory(t *testing.T) {
	d := deep(t)
	x := rowFrom(d, create("/d/e/x"), by(1, opening("/d/e/f/c")), by(2, rename("/d/e", "/g")), by(1, write(0, 0, "x")), by(1, create("/d/x")))
	x.closure([]int{1}, "-x---")
	x.closure([]int{2}, "xxx--")
	x.closure([]int{3}, "-x-x-")
	x.closure([]int{4}, "-x-xx")
	x.closed("x--x-", false)
	x.closed("--x--", false)
	x.closed("xxx--", true)
	x.closed("-x-xx", true)
	y := rowFrom(d, opening("/g/f/c"), by(2, create("/g/f/new")), by(1, unlink("/g/x")))
	y.closure([]int{2}, "--x")
	y.closure([]int{1}, "-x-")
	y.closure([]int{0}, "x--")
}

// P15.2: keys are those at the state behind all calls ahead, in the part or not.
func TestKeysBehindCallsThatAreOut(t *testing.T) {
	x := rowFrom(newDesk(t, 3), create("/a"), by(1, unlink("/a")), by(2, create("/a")), unlink("/a"))
	x.closure([]int{3}, "xxxx")
	x.closure([]int{2}, "xxx-")
	x.closed("x---", true)
	x.closed("x-x-", false)
	x.closed("--x-", false)
	failed := rowFrom(newDesk(t, 3), create("/a"), by(1, create("/a")), by(2, unlink("/a")))
	failed.closed("-x-", true)
	failed.closed("--x", false)
	failed.closed("x-x", true)
	failed.closure([]int{1}, "-x-")
	failed.closure([]int{2}, "x-x")
}

// P15.2: what a call hangs on may hang on more: a row in which each hangs on the one ahead.
func TestLongWaysBack(t *testing.T) {
	d := newDesk(t, 8)
	d.ok(create("/f"))
	var cs []api.Call
	for at := range 64 {
		names := []string{"/f", "/m", "/n"}
		cs = append(cs, by(at%8, rename(names[at%3], names[(at+1)%3])))
	}
	x := rowFrom(d, cs...)
	x.closure([]int{63}, strings.Repeat("x", 64))
	x.closure([]int{30}, strings.Repeat("x", 31)+strings.Repeat("-", 33))
	x.closed(strings.Repeat("x", 10)+"-x"+strings.Repeat("-", 52), false)
}

// R1: many calls, and many wanted places, end in little time.
func TestManyCalls(t *testing.T) {
	d := newDesk(t, 2)
	d.ok(create("/a"), create("/b"), opening("/a"), by(1, opening("/b")))
	var cs []api.Call
	for at := range 20_000 {
		cs = append(cs, by(at%2, write(0, at%200, "x")))
	}
	want := slices.Repeat([]int{19_999, 20_000, -1}, 100_000)
	in := depend.Closure(d.s, cs, want)
	for place, is := range in {
		if is != (place%2 == 1) {
			t.Fatalf("call %d: %t", place, is)
		}
	}
	if !depend.Closed(d.s, cs, in) {
		t.Error("not closed")
	}
	in[1] = false
	if depend.Closed(d.s, cs, in) {
		t.Error("closed without the first")
	}
	great := api.State{Inodes: slices.Repeat([]api.Inode{{Num: 1, Dir: true}}, 100_000), Made: []int{0}}
	if got := depend.Closure(great, cs, want); depend.Closed(great, cs, in) || len(got) != len(cs) || !got[19_999] || got[19_997] {
		t.Error("of a state that is far too great")
	}
}
