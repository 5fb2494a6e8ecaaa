package lock

import (
	"concourse/api"
	"concourse/arena"
)

// Begin gives a sequence lock's word, and tells whether nobody writes.
func Begin(a *arena.Arena, core int, at int) (int, bool, api.Errno) {
	seq, e := a.Load(core, at)
	if e != api.OK {
		return 0, false, refused(e)
	}
	// The lowest bit tells it below 0 too, where a remainder would be -1.
	return seq, seq&1 == 0, api.OK
}

// Same tells whether a sequence lock's word is seq.
func Same(a *arena.Arena, core int, at int, seq int) (bool, api.Errno) {
	word, e := a.Load(core, at)
	if e != api.OK {
		return false, refused(e)
	}
	return word == seq, api.OK
}

// Turn lets a sequence lock's word be one more: a writer begins, or ends.
func Turn(a *arena.Arena, core int, at int) api.Errno {
	_, e := a.Add(core, at, 1)
	return refused(e)
}
