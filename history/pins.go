package history

import (
	"slices"

	"concourse/api"
)

// pins are the numbers that operations' inodes have to have; 0 of one that has to be gone.
type pins [api.MaxOps]int

// pinned lets an operation make an inode of its own number alone, or, if that has to be
// gone, of one that last has not.
func (h *history) pinned(p pins, last api.State) numbering {
	return func(stands set, i int, s api.State) (api.State, bool) {
		core := h.ops[i].Call.Core
		if !h.makers(stands, core).has(setOf(i)) {
			return s, true
		}
		num := madeNum(core, s.Made[core]-1)
		_, stays := placeOf(last, num)
		return s, p[i] == num || p[i] == 0 && !stays
	}
}

// pinsFor tells what numbers operations' inodes have to have, if the state behind a row
// is like last but for numbers.
func (h *history) pinsFor(r row, last api.State) (pins, bool) {
	like := likeness{is: r.behind, last: last, nums: map[int]int{}}
	if !like.holds() {
		return pins{}, false
	}
	var all pins
	for core, ahead := range h.first.Made {
		makers := h.makers(r.stands, core)
		for i := range h.ops {
			if makers.has(setOf(i)) {
				all[i] = like.nums[madeNum(core, ahead)]
				ahead++
			}
		}
	}
	return all, true
}

// likeness goes along two states at one time, and gathers what number of the last one
// stands where one of the other does.
type likeness struct {
	is, last api.State
	nums     map[int]int
}

// holds tells whether both states are alike but for numbers.
func (l *likeness) holds() bool {
	if !slices.Equal(l.is.Made, l.last.Made) || len(l.is.Open) != len(l.last.Open) || !l.pair(root, root) {
		return false
	}
	for k, d := range l.is.Open {
		other := l.last.Open[k]
		if d.Core != other.Core || d.Fd != other.Fd || !l.pair(d.Num, other.Num) {
			return false
		}
	}
	return true
}

// pair takes in that one number stands where another does, and goes along below.
func (l *likeness) pair(num, other int) bool {
	if before, was := l.nums[num]; was {
		return before == other
	}
	l.nums[num] = other
	x, y := inode(l.is, num), inode(l.last, other)
	if x.Dir != y.Dir || x.Data != y.Data || len(x.Entries) != len(y.Entries) {
		return false
	}
	for k, e := range x.Entries {
		if e.Name != y.Entries[k].Name || !l.pair(e.Num, y.Entries[k].Num) {
			return false
		}
	}
	return true
}

// inode gives the inode of a number that is there.
func inode(s api.State, num int) api.Inode {
	at, _ := placeOf(s, num)
	return s.Inodes[at]
}

// placeOf tells where a number's inode stands, and whether it is there.
func placeOf(s api.State, num int) (int, bool) {
	return slices.BinarySearchFunc(s.Inodes, num, func(x api.Inode, num int) int { return x.Num - num })
}
