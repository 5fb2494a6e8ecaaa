package history_test

import (
	"math"
	"slices"
	"strings"
	"testing"

	"concourse/api"
	"concourse/history"
	"concourse/model"
)

// wantMay fails unless May tells this of an operation.
func wantMay(t *testing.T, want bool, o api.Op) {
	t.Helper()
	if history.May(o) != want {
		t.Errorf("May: %t, want %t: %s", !want, want, told([]api.Op{o}))
	}
}

// P25.1: an operation may be, if its call's Kind and Core are there; Core is held against MaxCores.
func TestMayOfCalls(t *testing.T) {
	for kind := -20; kind < 40; kind++ {
		for core := -10; core < 20; core++ {
			want := kind >= 0 && kind <= 16 && core >= 0 && core <= 7
			wantMay(t, want, op(api.Call{Kind: kind, Core: core}, 0, 0, 1))
			wantMay(t, want, going(api.Call{Kind: kind, Core: core, Path: "/a"}, 3))
		}
	}
	for _, far := range []int{math.MinInt, math.MinInt32, 1 << 32, math.MaxInt} {
		for _, o := range []api.Op{op(api.Call{Kind: far}, 0, 0, 1), op(api.Call{Core: far}, 0, 0, 1), going(api.Call{Kind: far}, 0), going(api.Call{Core: far}, 0)} {
			wantMay(t, false, o)
		}
	}
	wantMay(t, true, answered(api.Call{Kind: 4, Core: 7, Fd: -9, Off: -1, Num: math.MinInt, Path: "\xff", Path2: "?", Data: strings.Repeat("x", 999)}, api.Result{Code: -7, Fd: -1, Num: -2, Dir: true, Data: "z", Names: []string{""}}, 0, 1))
}

// P25.1: Began is from 0 on, Ended is -1 or above it.
func TestMayOfTimes(t *testing.T) {
	times := []int{math.MinInt, math.MinInt + 1, -1000, -3, -2, -1, 0, 1, 2, 3, 7, 8, 1 << 31, 1 << 32, math.MaxInt - 1, math.MaxInt}
	for _, began := range times {
		for _, ended := range times {
			want := began >= 0 && (ended == -1 || ended > began)
			wantMay(t, want, op(syncing(), 0, began, ended))
		}
	}
	wantMay(t, false, api.Op{})
	wantMay(t, true, api.Op{Ended: -1})
	wantMay(t, true, api.Op{Ended: 1})
}

// unlikeZero are results with one field unlike zero each.
func unlikeZero() []api.Result {
	return []api.Result{
		{Code: 1}, {Code: -1}, {Code: math.MaxInt}, {Fd: 1}, {Fd: -1}, {Num: 1}, {Num: -1}, {Num: math.MinInt},
		{Dir: true}, {Data: "x"}, {Data: "\x00"}, {Names: []string{"a"}}, {Names: []string{""}}, {Names: []string{"a", "b"}},
	}
}

// P25.1: what has not ended has a result that is zero; what has ended has any.
func TestMayOfResults(t *testing.T) {
	for kind := range kinds {
		c := api.Call{Kind: kind, Core: kind % 8, Path: "/a", Path2: "/b", Data: "data", Num: 9}
		for _, r := range unlikeZero() {
			wantMay(t, false, answered(c, r, 4, -1))
			wantMay(t, true, answered(c, r, 4, 5))
		}
		wantMay(t, true, answered(c, api.Result{}, 4, -1))
		wantMay(t, true, answered(c, api.Result{Names: []string{}}, 4, -1))
		wantMay(t, true, answered(c, api.Result{Names: make([]string, 0, 9)}, 4, -1))
	}
}

// wantError fails unless Legal and Ends tell an error, and false.
func wantError(t *testing.T, want api.Errno, s api.State, last api.State, ops ...api.Op) {
	t.Helper()
	if got, e := history.Ends(s, ops, last); got || e != want {
		t.Errorf("Ends: %t, error %d, want %d, of %d operations", got, e, want, len(ops))
	}
	if !model.May(last) && model.May(s) {
		return
	}
	if got, e := history.Legal(s, ops); got || e != want {
		t.Errorf("Legal: %t, error %d, want %d, of %d operations", got, e, want, len(ops))
	}
}

// wrongOps are operations that may not be.
func wrongOps() []api.Op {
	all := []api.Op{
		{}, op(syncing(), 0, 0, 0), op(syncing(), 0, 5, 5), op(syncing(), 0, 5, 4), op(syncing(), 0, -1, 1), op(syncing(), 0, 0, -2), going(syncing(), -1), op(syncing(), 0, -3, -2),
		op(api.Call{Kind: 17}, api.EINVAL, 0, 1), op(api.Call{Kind: -1}, api.EINVAL, 0, 1), op(api.Call{Core: 8}, api.EINVAL, 0, 1), op(api.Call{Core: -1}, api.EINVAL, 0, 1),
		going(api.Call{Kind: 17}, 0), going(api.Call{Core: 8}, 0),
	}
	for _, r := range unlikeZero() {
		all = append(all, answered(syncing(), r, 0, -1))
	}
	return all
}

// P25.1, P25.2: one operation that may not be, at any place among others, is ErrHistoryForm, also ahead of ErrHistoryLong.
func TestOperationsThatMayNot(t *testing.T) {
	s := newState(t, 2)
	for _, wrong := range wrongOps() {
		for _, count := range []int{0, 1, 9, 10, 11, 30} {
			for _, at := range []int{0, count / 2, count} {
				ops := slices.Repeat([]api.Op{op(syncing(), 0, 2, 3)}, count)
				wantError(t, api.ErrHistoryForm, s, s, slices.Insert(ops, at, wrong)...)
			}
		}
	}
	wantError(t, api.ErrHistoryForm, s, s, make([]api.Op, 1000)...)
}

// P25.1, P25.2: just MaxOps operations are asked about, one more is ErrHistoryLong, whether or not it has ended.
func TestHowMany(t *testing.T) {
	s := newState(t, 2, create("/a"))
	for _, one := range []api.Op{op(syncing(), 0, 2, 3), going(syncing(), 2), going(create("/b"), 0), op(stat("/a"), 0, 0, 1), op(stat("/a"), 1, 0, 1)} {
		for count := range 40 {
			ops := slices.Repeat([]api.Op{one}, count)
			if count > 10 {
				wantError(t, api.ErrHistoryLong, s, s, ops...)
				continue
			}
			wantLegal(t, count == 0 || one.Result.Code == 0, s, ops...)
			wantEnds(t, count == 0 || one.Result.Code == 0, s, s, ops...)
		}
	}
	wantError(t, api.ErrHistoryLong, s, s, slices.Repeat([]api.Op{op(syncing(), 5, 2, 3)}, 11)...)
}

// P25.1, P25.2: of no operations all is legal, and the state at the beginning is the last.
func TestNoOperations(t *testing.T) {
	for _, s := range []api.State{newState(t, 1), newState(t, 8), aState(t)} {
		for _, ops := range [][]api.Op{nil, {}, make([]api.Op, 0, 9)} {
			wantLegal(t, true, s, ops...)
			wantEnds(t, true, s, s, ops...)
			wantEnds(t, false, s, newState(t, 2), ops...)
			wantEnds(t, false, s, do(t, s, create("/new")), ops...)
		}
	}
}

// P25.1, P25.2: a state that may not be, at the beginning or the end, is ErrHistoryForm, whatever else is wrong.
func TestStatesThatMayNot(t *testing.T) {
	s := aState(t)
	for what, none := range bad(t) {
		if model.May(none) {
			t.Fatalf("%s: may be", what)
		}
		for _, ops := range [][]api.Op{nil, {op(syncing(), 0, 0, 1)}, {op(stat("/"), 1, 0, 1)}, {{}}, slices.Repeat([]api.Op{going(syncing(), 0)}, 11), make([]api.Op, 11)} {
			wantError(t, api.ErrHistoryForm, none, s, ops...)
			wantError(t, api.ErrHistoryForm, s, none, ops...)
			wantError(t, api.ErrHistoryForm, none, none, ops...)
		}
		if got, e := history.Legal(none, nil); got || e != api.ErrHistoryForm {
			t.Errorf("%s: Legal: %t, error %d", what, got, e)
		}
	}
}

// bad are states that may not be, each by one of the ways that layer 13 names.
func bad(t *testing.T) map[string]api.State {
	t.Helper()
	all := map[string]api.State{"no state": {}, "empty lists": {Inodes: []api.Inode{}, Open: []api.Desc{}, Made: []int{}}}
	add := func(what string, turn func(s *api.State)) {
		s := aState(t) // /d is 2, /a is 10, /d/f is 18, /e is 26, /b is 3, 11 is open alone
		turn(&s)
		all[what] = s
	}
	root := func(turn func(entries []api.Entry) []api.Entry) func(s *api.State) {
		return func(s *api.State) { s.Inodes[0].Entries = turn(s.Inodes[0].Entries) }
	}
	more := func(entries ...api.Entry) func(s *api.State) {
		return root(func(own []api.Entry) []api.Entry { return append(own, entries...) })
	}
	ahead := func(entries ...api.Entry) func(s *api.State) {
		return root(func(own []api.Entry) []api.Entry { return append(entries, own...) })
	}
	opens := func(d api.Desc) func(s *api.State) {
		return func(s *api.State) { s.Open = append(s.Open, d) }
	}
	inode := func(x api.Inode) func(s *api.State) {
		return func(s *api.State) { s.Inodes = append(s.Inodes, x); s.Made[0] = 7 }
	}
	add("no cores", func(s *api.State) { s.Made = nil })
	add("9 cores", func(s *api.State) { s.Made = append(s.Made, 0, 0, 0, 0, 0, 0) })
	add("made below 0", func(s *api.State) { s.Made[2] = -1 })
	add("33 made", func(s *api.State) { s.Made[0] = 33 })
	add("made too few", func(s *api.State) { s.Made[0] = 3 })
	add("of no core of these", func(s *api.State) { inode(api.Inode{Num: 45})(s); more(api.Entry{Name: "z", Num: 45})(s) })
	add("no root", func(s *api.State) { s.Inodes = s.Inodes[1:] })
	add("the root is a file", func(s *api.State) { *s = api.State{Inodes: []api.Inode{{Num: 1}}, Made: []int{0, 0}} })
	add("they fall", func(s *api.State) { s.Inodes[2], s.Inodes[3] = s.Inodes[3], s.Inodes[2] })
	add("twice", func(s *api.State) { s.Inodes = slices.Insert(s.Inodes, 3, s.Inodes[3]) })
	add("a directory with bytes", func(s *api.State) { s.Inodes[0].Data = "x" })
	add("257 bytes", func(s *api.State) { s.Inodes[3].Data = strings.Repeat("x", 257) })
	add("a file with entries", func(s *api.State) { s.Inodes[3].Entries = []api.Entry{{Name: "x", Num: 10}} })
	add("names fall", root(func(entries []api.Entry) []api.Entry { slices.Reverse(entries); return entries }))
	add("names alike", more(api.Entry{Name: "z", Num: 10}, api.Entry{Name: "z", Num: 10}))
	add("a name that may not be", ahead(api.Entry{Name: "..", Num: 10}))
	add("five of one bucket", func(s *api.State) {
		ahead(api.Entry{Name: "A", Num: 10}, api.Entry{Name: "I", Num: 10})(s)
		more(api.Entry{Name: "i", Num: 10}, api.Entry{Name: "q", Num: 10})(s)
	})
	add("no such inode", more(api.Entry{Name: "z", Num: 99}))
	add("an entry of the root", more(api.Entry{Name: "z", Num: 1}))
	add("a directory twice", more(api.Entry{Name: "z", Num: 2}))
	add("a directory without entry", inode(api.Inode{Num: 50, Dir: true}))
	add("a ring", inode(api.Inode{Num: 50, Dir: true, Entries: []api.Entry{{Name: "r", Num: 50}}}))
	add("a file without entry", inode(api.Inode{Num: 50}))
	add("an fd too great", opens(api.Desc{Core: 2, Fd: 4, Num: 10}))
	add("an fd below 0", opens(api.Desc{Core: 2, Fd: -1, Num: 10}))
	add("no such core", opens(api.Desc{Core: 3, Num: 10}))
	add("an open directory", opens(api.Desc{Core: 2, Num: 2}))
	add("an open file that is not", opens(api.Desc{Core: 2, Num: 50}))
	add("descriptors fall", func(s *api.State) { slices.Reverse(s.Open) })
	return all
}

// P25.1: an operation of a core that the state has not answers EINVAL, and nothing else.
func TestCoresThatTheStateHasNot(t *testing.T) {
	s := newState(t, 2, create("/a"), opening("/a"))
	for kind := range kinds {
		for core := 2; core < 8; core++ {
			c := api.Call{Kind: kind, Core: core, Path: "/a", Path2: "/b"}
			for code := range 11 {
				wantLegal(t, code == api.EINVAL, s, op(c, code, 3, 4))
			}
			wantLegal(t, false, s, answered(c, api.Result{Code: api.EINVAL, Fd: 1}, 3, 4))
			wantLegal(t, true, s, going(c, 3), op(syncing(), 0, 5, 6))
			wantEnds(t, true, s, s, op(c, api.EINVAL, 3, 4), going(c, 3))
			wantEnds(t, false, s, do(t, s, link("/a", "/b")), going(c, 3))
		}
	}
}
