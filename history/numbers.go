package history

import (
	"cmp"
	"math/bits"
	"slices"

	"concourse/api"
)

// root is the directory that paths begin at.
const root = 1

// A core's first inode has this number and the core's on top, the next ones stand
// MaxCores apart (layer 10).
const firstMade = 2

// madeNum is the number of what a core makes behind so many others.
func madeNum(core, ahead int) int {
	return firstMade + core + api.MaxCores*ahead
}

// makers gives, of operations that stand in a row, those of a core that made an inode.
// One that has not ended stands there only if it did.
func (h *history) makers(stands set, core int) set {
	var all set
	for i, op := range h.ops {
		creates := op.Call.Kind == api.CallCreate || op.Call.Kind == api.CallMkdir
		if creates && op.Call.Core == core && op.Result.Code == api.CodeOK {
			all |= setOf(i)
		}
	}
	return all & stands
}

// inListsRow numbers what an operation made as if the core's makers that stand with it
// had come in the list's row. No answer tells a number, so that what may follow is the
// same; and rows that are unlike in their makers' row alone come to one spot.
func (h *history) inListsRow(stands set, i int, s api.State) (api.State, bool) {
	core := h.ops[i].Call.Core
	makers := h.makers(stands, core)
	if !makers.has(setOf(i)) {
		return s, true
	}
	newest := s.Made[core] - 1
	own := newest - bits.OnesCount(uint(makers>>(i+1)))
	to := map[int]int{madeNum(core, newest): madeNum(core, own)}
	for ahead := own; ahead < newest; ahead++ {
		to[madeNum(core, ahead)] = madeNum(core, ahead+1)
	}
	renumber(s, to)
	return s, true
}

// renumber gives inodes other numbers, in the state itself.
func renumber(s api.State, to map[int]int) {
	turn := func(num *int) {
		if other, is := to[*num]; is {
			*num = other
		}
	}
	for at := range s.Inodes {
		x := &s.Inodes[at]
		turn(&x.Num)
		for k := range x.Entries {
			turn(&x.Entries[k].Num)
		}
	}
	slices.SortFunc(s.Inodes, func(a, b api.Inode) int { return cmp.Compare(a.Num, b.Num) })
	for k := range s.Open {
		turn(&s.Open[k].Num)
	}
}
