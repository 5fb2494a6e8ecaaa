package model_test

import (
	"testing"

	"concourse/api"
	"concourse/model"
)

// plainMay is the chapter's head, rule by rule, each over all of the state.
func plainMay(s api.State) bool {
	return plainMade(s) && plainNums(s) && plainKinds(s) && plainNames(s) && plainHeld(s) && plainOpen(s)
}

func plainMade(s api.State) bool {
	for _, count := range s.Made {
		if count < 0 || count > 32 {
			return false
		}
	}
	return len(s.Made) >= 1 && len(s.Made) <= 8
}

// plainNums: the numbers that there may be are put down one by one, as cores are given them.
func plainNums(s api.State) bool {
	given := map[int]bool{}
	for core, count := range s.Made {
		for ahead := range count {
			given[2+core+8*ahead] = true
		}
	}
	for at, x := range s.Inodes {
		if at > 0 && (!given[x.Num] || x.Num <= s.Inodes[at-1].Num) {
			return false
		}
	}
	return len(s.Inodes) > 0 && s.Inodes[0].Num == 1 && s.Inodes[0].Dir
}

func plainKinds(s api.State) bool {
	for _, x := range s.Inodes {
		if x.Dir && len(x.Data) > 0 || !x.Dir && (len(x.Entries) > 0 || len(x.Data) > 256) {
			return false
		}
	}
	return true
}

func plainNames(s api.State) bool {
	there := map[int]bool{}
	for _, x := range s.Inodes {
		there[x.Num] = x.Num != 1
	}
	for _, x := range s.Inodes {
		var buckets [8]int
		for at, e := range x.Entries {
			if at > 0 && e.Name <= x.Entries[at-1].Name || plainName(e.Name) != 0 || !there[e.Num] {
				return false
			}
			buckets[plainBucket(e.Name)]++
		}
		for _, count := range buckets {
			if count > 4 {
				return false
			}
		}
	}
	return true
}

// plainHeld: from the root on, what is found is marked until no more is.
func plainHeld(s api.State) bool {
	count, found := map[int]int{}, map[int]bool{1: true}
	for _, x := range s.Inodes {
		for _, e := range x.Entries {
			count[e.Num]++
		}
	}
	for range s.Inodes {
		for _, x := range s.Inodes {
			for _, e := range x.Entries {
				found[e.Num] = found[e.Num] || found[x.Num]
			}
		}
	}
	for _, d := range s.Open {
		found[d.Num] = true
	}
	for _, x := range s.Inodes {
		if !found[x.Num] || x.Dir && x.Num != 1 && count[x.Num] != 1 {
			return false
		}
	}
	return true
}

func plainOpen(s api.State) bool {
	files := map[int]bool{}
	for _, x := range s.Inodes {
		files[x.Num] = !x.Dir
	}
	before := -1
	for _, d := range s.Open {
		if d.Core < 0 || d.Core >= len(s.Made) || d.Fd < 0 || d.Fd > 3 || !files[d.Num] || 4*d.Core+d.Fd <= before {
			return false
		}
		before = 4*d.Core + d.Fd
	}
	return true
}

// turnSome turns one thing of a state, to what is mostly near to what it was.
func (r *row) turnSome(s *api.State) {
	if len(s.Inodes) == 0 || len(s.Made) == 0 {
		return
	}
	x := &s.Inodes[r.below(len(s.Inodes))]
	y := s.Inodes[r.below(len(s.Inodes))]
	switch r.below(14) {
	case 0:
		s.Made[r.below(len(s.Made))] += r.below(3) - 1
	case 1:
		x.Num += r.below(3) - 1
	case 2:
		x.Num += 8 * (r.below(3) - 1)
	case 3:
		x.Dir = !x.Dir
	case 4:
		x.Data = []string{"", "x", string(make([]byte, 256)), string(make([]byte, 257))}[r.below(4)]
	case 5:
		x.Entries = append(x.Entries, api.Entry{Name: r.someName(), Num: y.Num})
	case 6:
		s.Inodes = s.Inodes[:len(s.Inodes)-r.below(2)]
	case 7:
		s.Inodes = append(s.Inodes, api.Inode{Num: y.Num + 8*r.below(3), Dir: r.below(2) == 0})
	case 8:
		s.Open = append(s.Open, api.Desc{Core: r.below(len(s.Made) + 1), Fd: r.below(6) - 1, Num: y.Num})
	case 9:
		s.Made = s.Made[:len(s.Made)-1]
	default:
		r.turnInside(s, x, y)
	}
}

// turnInside turns one thing of an entry or of a descriptor.
func (r *row) turnInside(s *api.State, x *api.Inode, y api.Inode) {
	if len(x.Entries) > 0 {
		e := &x.Entries[r.below(len(x.Entries))]
		switch r.below(4) {
		case 0:
			e.Name = r.someName()
		case 1:
			e.Num = y.Num
		case 2:
			x.Entries = x.Entries[:len(x.Entries)-1]
		case 3:
			e.Num += r.below(3) - 1
		}
	}
	if len(s.Open) > 0 && r.below(2) == 0 {
		d := &s.Open[r.below(len(s.Open))]
		switch r.below(4) {
		case 0:
			d.Core += r.below(3) - 1
		case 1:
			d.Fd += r.below(3) - 1
		case 2:
			d.Num = y.Num
		case 3:
			s.Open = s.Open[:len(s.Open)-1]
		}
	}
}

// P13's head: states that calls left, with one thing or more turned, are as the rules say, one by one.
func TestTurnedStates(t *testing.T) {
	g := row(29)
	may, not := 0, 0
	for round := range 120 {
		d := newDesk(t, 1+round%8)
		for range 12 + 2*(round%20) {
			d.do(g.someCall(d.w))
		}
		for range 150 {
			s := deepCopy(d.s)
			for range 1 + g.below(3) {
				g.turnSome(&s)
			}
			got, before := model.May(s), show(s)
			if got != plainMay(s) {
				t.Fatalf("May: %t, of\n%s", got, before)
			}
			if got {
				may++
			} else {
				not++
			}
			behind, r := model.Do(s, mkdir("/"))
			if r.Code != api.EINVAL || show(behind) != before || show(s) != before {
				t.Fatalf("%s", before)
			}
		}
	}
	if may < 1000 || not < 1000 {
		t.Errorf("%d that may be, %d that may not", may, not)
	}
}
