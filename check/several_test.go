package check_test

import (
	"slices"
	"strings"
	"testing"

	"concourse/api"
	"concourse/check"
	"concourse/model"
)

// P20.1: several things wrong at one time are told by Kind, then Num, then Name, each once.
func TestAllKindsAtOneTime(t *testing.T) {
	slots := oneBucket(5, 6)
	s := api.State{Made: []int{40, -1}, Inodes: []api.Inode{
		{Num: 1, Entries: []api.Entry{{Name: "a", Num: 2}}},
		{Num: 18, Dir: true, Data: "x", Entries: []api.Entry{{Name: "z", Num: 1}, {Name: "b", Num: 77}, {Name: "b", Num: 77}, {Name: "", Num: 10}}},
		{Num: 10, Dir: true},
		{Num: 10, Data: strings.Repeat("x", 300)},
		{Num: 3},
		{Num: -1, Dir: true},
	}, Open: []api.Desc{{Core: 1, Fd: 2, Num: 18}, {Core: 0, Fd: 9, Num: 3}, {Core: 5, Num: 77}, {Core: 5, Num: 77}}}
	for _, name := range slots {
		s.Inodes[2].Entries = append(s.Inodes[2].Entries, api.Entry{Name: name, Num: -1})
	}
	want(t, "all kinds", s,
		f(1, -1), f(1, 1), f(1, 3), f(1, 10),
		f(2, 18, "b"), f(2, 18, "z"),
		f(3, -1), f(3, 18),
		f(4, -1), f(4, 10), f(4, 18),
		f(5, 18, ""), f(5, 18, "b"),
		f(6, 1), f(6, 10), f(6, 18),
		f(7, 10),
		f(8, -1), f(8, 0), f(8, 1), f(8, 3),
		f(9, 3), f(9, 18), f(9, 77))
}

// P20.1: findings of one kind and number are by their names' bytes, of one kind by numbers, not by digits.
func TestTheRowOfFindings(t *testing.T) {
	s := api.State{Made: []int{32}, Inodes: []api.Inode{{Num: 1, Dir: true}}}
	var wanted []api.Finding
	for _, num := range []int{2, 10, 90, 98, 106, 202} {
		s.Inodes[0].Entries = append(s.Inodes[0].Entries, api.Entry{Name: strings.Repeat("d", len(s.Inodes)), Num: num})
		x := api.Inode{Num: num, Dir: true}
		for _, name := range []string{"é", "z", "aa", "a", "Z", "", "日"} {
			x.Entries = append(x.Entries, api.Entry{Name: name, Num: 5})
		}
		s.Inodes = append(s.Inodes, x)
		for _, name := range []string{"", "Z", "a", "aa", "z", "é", "日"} {
			wanted = append(wanted, f(2, num, name))
		}
	}
	for _, num := range []int{2, 10, 90, 98, 106, 202} {
		for _, name := range []string{"", "Z", "a", "aa", "z"} {
			wanted = append(wanted, f(5, num, name))
		}
	}
	want(t, "falling names", s, wanted...)
}

// someCall is a call that may turn something, of a core that there is.
func (r *row) someCall(cores int) api.Call {
	paths := []string{"/a", "/b", "/d", "/d/a", "/d/e", "/d/e/f", "/d/e/f/g", "/é", "/a b", "/123456789012"}
	c := api.Call{Core: r.below(cores), Fd: r.below(4), Off: r.below(30), Num: r.below(257)}
	c.Kind = pick(r, api.CallCreate, api.CallCreate, api.CallMkdir, api.CallMkdir, api.CallOpen, api.CallOpen, api.CallClose,
		api.CallWrite, api.CallTruncate, api.CallLink, api.CallUnlink, api.CallUnlink, api.CallRmdir, api.CallRename)
	c.Path, c.Path2 = pick(r, paths...), pick(r, paths...)
	c.Data = strings.Repeat("x", pick(r, 0, 1, r.below(20), r.below(227)))
	return c
}

// someStates are states that rows of calls lead to.
func someStates(seed row, rounds int) []api.State {
	var all []api.State
	for round := range rounds {
		s, _ := model.New(1 + round%api.MaxCores)
		for range 50 {
			s, _ = model.Do(s, seed.someCall(len(s.Made)))
			all = append(all, s)
		}
	}
	return all
}

// someName is a name, mostly one that may be.
func (r *row) someName() string {
	if r.below(4) == 0 {
		return pick(r, wrongNames...)
	}
	return pick(r, "a", "b", "d", "e", "f", "g", "A", "é", "j", "r", "z", "B", "J")
}

// near is a number near to another one, or one far off.
func (r *row) near(n int) int {
	return pick(r, n-8, n-1, n, n+1, n+8, n+16, -1, 0, 1, 2, 1<<62, -1<<63)
}

// turnInode turns one thing of an inode.
func (r *row) turnInode(x *api.Inode) {
	switch r.below(7) {
	case 0:
		x.Num = r.near(x.Num)
	case 1:
		x.Dir = !x.Dir
	case 2:
		x.Data = strings.Repeat("x", pick(r, 0, 1, 256, 257))
	case 3:
		x.Entries = append(x.Entries, api.Entry{Name: r.someName(), Num: r.near(r.below(20))})
	case 4:
		x.Entries = x.Entries[:len(x.Entries)-min(len(x.Entries), 1)]
	default:
		if len(x.Entries) > 0 {
			e := &x.Entries[r.below(len(x.Entries))]
			*e = pick(r, api.Entry{Name: r.someName(), Num: e.Num}, api.Entry{Name: e.Name, Num: r.near(e.Num)})
		}
	}
}

// turnState turns one thing of a state.
func (r *row) turnState(s *api.State) {
	if len(s.Inodes) == 0 || len(s.Made) == 0 {
		return
	}
	x := &s.Inodes[r.below(len(s.Inodes))]
	core := r.below(len(s.Made))
	switch r.below(8) {
	case 0:
		s.Made[core] = pick(r, s.Made[core]-1, s.Made[core]+1, -1, 0, 31, 32, 33)
	case 1:
		s.Made = pick(r, s.Made[:len(s.Made)-1], append(s.Made, 0))
	case 2:
		s.Inodes = slices.Delete(s.Inodes, 0, r.below(2))
	case 3:
		s.Inodes = slices.Insert(s.Inodes, r.below(len(s.Inodes)+1), api.Inode{Num: r.near(x.Num), Dir: r.below(2) == 0})
	case 4:
		d := api.Desc{Core: r.near(core), Fd: r.below(6) - 1, Num: pick(r, x.Num, r.near(x.Num))}
		s.Open = slices.Insert(s.Open, r.below(len(s.Open)+1), d)
	case 5:
		s.Open = s.Open[:len(s.Open)-min(len(s.Open), 1)]
	default:
		r.turnInode(x)
	}
}

// P20.2: of states that calls lead to nothing is found; of such states with something turned what the chapter says,
// and nothing just if the state may be.
func TestStatesOfCalls(t *testing.T) {
	g := row(20)
	may, kinds := 0, map[int]int{}
	for _, s := range someStates(20, 48) {
		if got := wantPlain(t, s); len(got) != 0 {
			t.Fatalf("found %v, of\n%s", got, show(s))
		}
		for range 8 {
			x := deepCopy(s)
			for range 1 + g.below(3) {
				g.turnState(&x)
			}
			got := wantPlain(t, x)
			if len(got) == 0 {
				may++
			}
			for _, one := range got {
				kinds[one.Kind]++
			}
		}
	}
	for kind := 1; kind <= 9; kind++ {
		if kind != 7 && kinds[kind] < 300 {
			t.Errorf("kind %d: %d only", kind, kinds[kind])
		}
	}
	if may < 1000 || len(kinds) > 9 {
		t.Errorf("%d that may be, kinds %v", may, kinds)
	}
}

// drawn is any state, a small one.
func (r *row) drawn() api.State {
	var s api.State
	for range pick(r, 1, 1, 1, 2, 3, r.below(11)) {
		s.Made = append(s.Made, pick(r, 0, 1, 2, 2, 3, 32, 33, -1))
	}
	num := pick(r, 1, 1, 1, 1, r.below(4))
	for range r.below(6) {
		x := api.Inode{Num: num, Dir: num == 1 || r.below(2) == 0}
		for range r.below(4) {
			if r.below(12) == 0 || x.Dir {
				x.Entries = append(x.Entries, api.Entry{Name: r.someName(), Num: pick(r, 2, 3, 10, 11, r.below(19)-1)})
			}
		}
		if r.below(4) > 0 {
			slices.SortFunc(x.Entries, func(a, b api.Entry) int { return strings.Compare(a.Name, b.Name) })
		}
		if r.below(8) == 0 {
			x.Data = "x"
		}
		s.Inodes = append(s.Inodes, x)
		num = pick(r, num+1, num+1, num+8, num+r.below(4)-1)
	}
	for range r.below(3) {
		s.Open = append(s.Open, api.Desc{Core: r.below(3) - r.below(2), Fd: r.below(5), Num: r.below(12)})
	}
	return s
}

// P20.1, P20.2: states that are drawn at random.
func TestDrawnStates(t *testing.T) {
	g := row(2)
	may, kinds := 0, map[int]int{}
	for range 30_000 {
		got := wantPlain(t, g.drawn())
		if len(got) == 0 {
			may++
		}
		for _, one := range got {
			kinds[one.Kind]++
		}
	}
	for kind := 1; kind <= 9; kind++ {
		if kind != 7 && kinds[kind] < 1000 {
			t.Errorf("kind %d: %d only", kind, kinds[kind])
		}
	}
	if may < 200 {
		t.Errorf("%d that may be", may)
	}
}

// P20.1: directories of many names, which fill their buckets.
func TestDrawnNames(t *testing.T) {
	g := row(7)
	full := 0
	for range 2000 {
		var names []string
		for range 12 + g.below(20) {
			names = append(names, g.someName()+pick(&g, "", "x", "yy", "0"))
		}
		s := withNames(names)
		for range g.below(3) {
			at, other := g.below(len(names)), g.below(len(names))
			entries := s.Inodes[0].Entries
			entries[at], entries[other] = entries[other], entries[at]
		}
		if slices.Contains(wantPlain(t, s), f(7, 1)) {
			full++
		}
	}
	if full < 300 || full > 1900 {
		t.Errorf("%d full ones", full)
	}
}

// chain is a state of so many directories, each in the one ahead.
func chain(count int) api.State {
	s := api.State{Made: slices.Repeat([]int{32}, 8)}
	for at := range count + 1 {
		x := api.Inode{Num: 1 + at, Dir: true}
		if at < count {
			x.Entries = []api.Entry{{Name: "d", Num: 2 + at}}
		}
		s.Inodes = append(s.Inodes, x)
	}
	return s
}

// P20.1: directories may be deeper than a path can lead; a ring of all of them is not found.
func TestDeepStates(t *testing.T) {
	for _, count := range []int{1, 4, 5, 31, 256} {
		s := chain(count)
		want(t, "a chain", s)
		s.Inodes[count].Entries = []api.Entry{{Name: "up", Num: 1}}
		want(t, "a chain back to the root", s, f(2, count+1, "up"))
		s.Inodes[count].Entries[0].Num = 2
		want(t, "a chain back to its first", s, f(3, 2))
		s.Inodes[0].Entries = nil
		var wanted []api.Finding
		for num := 2; num <= count+1; num++ {
			wanted = append(wanted, f(4, num))
		}
		want(t, "a ring", s, wanted...)
	}
}

// R1: of states that are far too great all is found, in a time that their size explains.
func TestGreatStates(t *testing.T) {
	const many = 100_000
	falling := api.State{Made: []int{0}}
	for num := many; num > 0; num-- {
		falling.Inodes = append(falling.Inodes, api.Inode{Num: num, Dir: true, Entries: []api.Entry{{Name: "/", Num: num - 1}}})
	}
	if got := check.State(falling); len(got) != (many-1)+2+1+(many-1)+many+(many-1) { // kinds 1, 2, 3, 4, 5 and 8
		t.Errorf("falling inodes: %d findings", len(got))
	}
	names := withNames([]string{"a"})
	open := withNames([]string{"a"})
	for at := range many {
		names.Inodes[0].Entries = append(names.Inodes[0].Entries, api.Entry{Name: string([]byte{byte(-at), byte(-at >> 8), byte(-at >> 16)}), Num: 3})
		open.Open = append(open.Open, api.Desc{Fd: -at, Num: -at})
	}
	if got := check.State(names); len(got) < many || !slices.Contains(got, f(7, 1)) || !slices.IsSortedFunc(got, func(a, b api.Finding) int {
		return strings.Compare(string([]byte{byte(a.Kind)})+a.Name, string([]byte{byte(b.Kind)})+b.Name)
	}) {
		t.Errorf("falling names: %d findings", len(got))
	}
	if got := check.State(open); len(got) != many || got[0] != f(9, 1-many) || got[many-1] != f(9, 0) {
		t.Errorf("falling descriptors: %d findings", len(got))
	}
	made := api.State{Inodes: []api.Inode{{Num: 1, Dir: true}}, Made: slices.Repeat([]int{33}, many)}
	if got := check.State(made); len(got) != many+1 || got[0] != f(8, -1) || got[many] != f(8, many-1) {
		t.Errorf("many cores: %d findings", len(got))
	}
}
