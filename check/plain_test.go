package check_test

import (
	"cmp"
	"fmt"
	"math/big"
	"slices"
	"strings"
	"testing"
	"unicode/utf8"

	"concourse/api"
	"concourse/check"
	"concourse/model"
)

// row is a row of numbers that is the same in each run.
type row uint64

func (r *row) below(n int) int {
	*r = *r*6364136223846793005 + 1442695040888963407
	return int(uint64(*r) >> 33 % uint64(n))
}

// pick takes one of several.
func pick[T any](r *row, of ...T) T {
	return of[r.below(len(of))]
}

// f is a finding, with a name if there is one.
func f(kind, num int, name ...string) api.Finding {
	return api.Finding{Kind: kind, Num: num, Name: strings.Join(name, "")}
}

// plain is the chapter's list, each kind over all of the state, put in a row at the end.
func plain(s api.State) []api.Finding {
	found := map[api.Finding]bool{}
	for _, kind := range []func(s api.State, tell func(num int, name string)) int{
		plainNums, plainEntries, plainLinks, plainWays, plainNames, plainContents, plainBuckets, plainMade, plainOpen,
	} {
		var own []api.Finding
		number := kind(s, func(num int, name string) { own = append(own, f(0, num, name)) })
		for _, one := range own {
			one.Kind = number
			found[one] = true
		}
	}
	var all []api.Finding
	for one := range found {
		all = append(all, one)
	}
	slices.SortFunc(all, func(a, b api.Finding) int {
		return cmp.Or(a.Kind-b.Kind, cmp.Compare(a.Num, b.Num), cmp.Compare(a.Name, b.Name))
	})
	return all
}

// plainFirst is the first inode of a number, or nil.
func plainFirst(s api.State, num int) *api.Inode {
	for at := range s.Inodes {
		if s.Inodes[at].Num == num {
			return &s.Inodes[at]
		}
	}
	return nil
}

// plainAll gives each entry of each directory, with its directory and the name ahead, if there is one.
func plainAll(s api.State, give func(x api.Inode, e api.Entry, ahead []string)) {
	for _, x := range s.Inodes {
		var ahead []string
		for _, e := range x.Entries {
			if x.Dir {
				give(x, e, ahead)
			}
			ahead = []string{e.Name}
		}
	}
}

func plainNums(s api.State, tell func(num int, name string)) int {
	if root := plainFirst(s, 1); root == nil || root != &s.Inodes[0] || !root.Dir {
		tell(1, "")
	}
	var ahead []int
	for _, x := range s.Inodes {
		for _, one := range append(ahead, 0) {
			if x.Num <= one {
				tell(x.Num, "")
			}
		}
		ahead = []int{x.Num}
	}
	return 1
}

func plainEntries(s api.State, tell func(num int, name string)) int {
	plainAll(s, func(x api.Inode, e api.Entry, _ []string) {
		if e.Num == 1 || plainFirst(s, e.Num) == nil {
			tell(x.Num, e.Name)
		}
	})
	return 2
}

func plainLinks(s api.State, tell func(num int, name string)) int {
	for _, x := range s.Inodes {
		if x.Dir && x.Num != 1 && model.Links(s, x.Num) != 1 {
			tell(x.Num, "")
		}
	}
	return 3
}

// plainWays marks what is found, over and over, until no more is.
func plainWays(s api.State, tell func(num int, name string)) int {
	marked := map[*api.Inode]bool{plainFirst(s, 1): true}
	for before := 0; before != len(marked); {
		before = len(marked)
		for at := range s.Inodes {
			if x := &s.Inodes[at]; x.Dir && marked[x] {
				for _, e := range x.Entries {
					marked[plainFirst(s, e.Num)] = true
				}
			}
		}
	}
	for at := range s.Inodes {
		x := &s.Inodes[at]
		isOpen := slices.ContainsFunc(s.Open, func(d api.Desc) bool { return d.Num == x.Num })
		if !marked[x] && (x.Dir || !isOpen) {
			tell(x.Num, "")
		}
	}
	return 4
}

// plainName tells whether a name may be.
func plainName(s string) bool {
	isSign := func(r rune) bool { return r < 32 || r == 127 || r == '/' }
	return len(s) >= 1 && len(s) <= 12 && s != "." && s != ".." && utf8.ValidString(s) && !strings.ContainsFunc(s, isSign)
}

func plainNames(s api.State, tell func(num int, name string)) int {
	plainAll(s, func(x api.Inode, e api.Entry, ahead []string) {
		if !plainName(e.Name) || len(ahead) > 0 && ahead[0] >= e.Name {
			tell(x.Num, e.Name)
		}
	})
	return 5
}

func plainContents(s api.State, tell func(num int, name string)) int {
	for _, x := range s.Inodes {
		switch {
		case x.Dir && len(x.Data) > 0, !x.Dir && len(x.Entries) > 0, !x.Dir && len(x.Data) > 256:
			tell(x.Num, "")
		}
	}
	return 6
}

// plainBucket is a name's bucket, reckoned in numbers without an end.
func plainBucket(s string) int64 {
	hash := big.NewInt(7)
	for _, r := range s {
		hash.Mul(hash, big.NewInt(31))
		hash.Add(hash, big.NewInt(int64(r)))
	}
	hash.Mod(hash, big.NewInt(1<<32))
	return hash.Mod(hash, big.NewInt(8)).Int64()
}

func plainBuckets(s api.State, tell func(num int, name string)) int {
	for _, x := range s.Inodes {
		counts := map[int64]int{}
		for _, e := range x.Entries {
			counts[plainBucket(e.Name)]++
		}
		for _, count := range counts {
			if x.Dir && count > 4 {
				tell(x.Num, "")
			}
		}
	}
	return 7
}

// plainMade: the numbers that cores were given are put down one by one.
func plainMade(s api.State, tell func(num int, name string)) int {
	if len(s.Made) == 0 || len(s.Made) > 8 {
		tell(-1, "")
	}
	given := map[int]bool{1: true}
	for core, count := range s.Made {
		if count != min(max(count, 0), 32) {
			tell(core, "")
		}
		for ahead := range min(count, 32) {
			if core < 8 {
				given[2+core+8*ahead] = true
			}
		}
	}
	for _, x := range s.Inodes {
		if !given[x.Num] {
			tell(x.Num, "")
		}
	}
	return 8
}

func plainOpen(s api.State, tell func(num int, name string)) int {
	for at, d := range s.Open {
		x := plainFirst(s, d.Num)
		isSome := slices.Contains([]int{0, 1, 2, 3}, d.Fd) && d.Core >= 0 && d.Core < len(s.Made)
		if x == nil || x.Dir || !isSome {
			tell(d.Num, "")
		}
		if at > 0 && slices.Compare([]int{s.Open[at-1].Core, s.Open[at-1].Fd}, []int{d.Core, d.Fd}) >= 0 {
			tell(d.Num, "")
		}
	}
	return 9
}

// aState may be: 3 cores; /a, /b and /d/e/b are file 3; /d is 2, /d/e is 10, /d/e/c is file 4; file 11 is open alone,
// file 3 by two cores.
func aState() api.State {
	return api.State{
		Inodes: []api.Inode{
			{Num: 1, Dir: true, Entries: []api.Entry{{Name: "a", Num: 3}, {Name: "b", Num: 3}, {Name: "d", Num: 2}}},
			{Num: 2, Dir: true, Entries: []api.Entry{{Name: "e", Num: 10}}},
			{Num: 3, Data: "bytes"},
			{Num: 4},
			{Num: 10, Dir: true, Entries: []api.Entry{{Name: "b", Num: 3}, {Name: "c", Num: 4}}},
			{Num: 11, Data: "held"},
		},
		Open: []api.Desc{{Core: 0, Fd: 1, Num: 3}, {Core: 1, Fd: 0, Num: 3}, {Core: 1, Fd: 3, Num: 11}},
		Made: []int{2, 2, 1},
	}
}

// turned is aState with one turn.
func turned(turn func(s *api.State)) api.State {
	s := aState()
	turn(&s)
	return s
}

// show is a state as a text: an empty list and nil are one.
func show(s api.State) string {
	text := fmt.Sprintf("%+v", s)
	if len(text) > 2000 {
		return text[:2000] + ".."
	}
	return text
}

// wantPlain fails unless State finds what the plain reading does, nothing just if the state may be, and changes nothing.
func wantPlain(t *testing.T, s api.State) []api.Finding {
	t.Helper()
	before := fmt.Sprintf("%+v", s)
	got := check.State(s)
	if want := plain(s); !slices.Equal(got, want) {
		t.Fatalf("found %v, want %v, of\n%s", got, want, show(s))
	}
	if may := model.May(s); may != (len(got) == 0) {
		t.Fatalf("found %v, and May says %t, of\n%s", got, may, show(s))
	}
	if fmt.Sprintf("%+v", s) != before {
		t.Fatalf("what was handed in is changed: %s", show(s))
	}
	return got
}

// want fails unless State finds just this, as the plain reading does.
func want(t *testing.T, what string, s api.State, want ...api.Finding) {
	t.Helper()
	if got := wantPlain(t, s); !slices.Equal(got, want) {
		t.Errorf("%s: found %v, want %v", what, got, want)
	}
}

// one is a turn of aState, and what is found then.
type one struct {
	what string
	turn func(s *api.State)
	want []api.Finding
}

// all is a list of findings.
func all(found ...api.Finding) []api.Finding {
	return found
}

// wantEach fails unless each turn of aState is found to be what it is.
func wantEach(t *testing.T, rows []one) {
	t.Helper()
	for _, x := range rows {
		want(t, x.what, turned(x.turn), x.want...)
	}
}
