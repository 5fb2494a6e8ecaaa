package history

import (
	"concourse/api"
	"concourse/model"
)

// set is a set of operations: a bit for each one's place in the list.
type set uint

// setOf gives the set of one operation.
func setOf(i int) set {
	return 1 << i
}

// has tells whether all of another set are in it.
func (s set) has(all set) bool {
	return all&^s == 0
}

// history is operations, and the state that they were done from.
type history struct {
	first api.State
	ops   []api.Op
	ended set
	ahead []set // of each operation those that ended before it began
}

func newHistory(s api.State, ops []api.Op) *history {
	h := &history{first: s, ops: ops, ahead: make([]set, len(ops))}
	for i, op := range ops {
		if op.Ended == underWay {
			continue
		}
		h.ended |= setOf(i)
		for later := range ops {
			if op.Ended <= ops[later].Began {
				h.ahead[later] |= setOf(i)
			}
		}
	}
	return h
}

// spot is what a row comes to: who stands in it, and the state behind it, told as a text.
// What may follow hangs on nothing else.
type spot struct {
	stands set
	told   string
}

// row is the beginning of a row of operations.
type row struct {
	spot
	behind api.State
}

// search goes on by an operation at a time, and back where none leads to what is looked for.
type search struct {
	*history
	number  numbering
	isFound func(r row) bool // of a row in which all stand that have ended
	tried   map[spot]struct{}
}

// numbering tells with what numbers of inodes a row goes on, whose last operation is i,
// and whether it may.
type numbering func(stands set, i int, behind api.State) (api.State, bool)

// find tells whether there is a row that is looked for.
func (h *history) find(number numbering, isFound func(r row) bool) bool {
	x := &search{history: h, number: number, isFound: isFound, tried: map[spot]struct{}{}}
	return x.goesOn(row{behind: h.first})
}

// goesOn tells whether a row leads on to what is looked for. Each spot is tried but once:
// asked of it again, the answer is no, since a yes ends the search.
func (x *search) goesOn(r row) bool {
	if _, was := x.tried[r.spot]; was {
		return false
	}
	x.tried[r.spot] = struct{}{}
	if r.stands.has(x.ended) && x.isFound(r) {
		return true
	}
	for i := range x.ops {
		if next, may := x.with(r, i); may && x.goesOn(next) {
			return true
		}
	}
	return false
}

// with puts an operation behind a row, if it may stand there.
func (x *search) with(r row, i int) (row, bool) {
	if r.stands.has(setOf(i)) || !r.stands.has(x.ahead[i]) {
		return row{}, false
	}
	behind, may := done(r.behind, x.ops[i])
	stands := r.stands | setOf(i)
	if may {
		behind, may = x.number(stands, i, behind)
	}
	if !may {
		return row{}, false
	}
	return row{spot{stands, x.told(behind)}, behind}, true
}

// done gives the state behind an operation, if it may stand there. One that has not ended
// need not stand where it is refused: that turns nothing, so the row is as good without.
func done(s api.State, op api.Op) (api.State, bool) {
	if op.Ended != underWay {
		return model.Allows(s, op.Call, op.Result)
	}
	behind, answer := model.Do(s, op.Call)
	return behind, answer.Code == api.CodeOK
}
