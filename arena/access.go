package arena

import (
	"concourse/api"
)

// access is what a core does to a word: reading, or writing.
type access any

// reading leaves the word as it is.
type reading struct{}

// writing lets the word be v.
type writing struct {
	v int
}

// touch does to a word what choose makes of what the word is, and notes it in the core's trace.
// A touch that is refused asks choose nothing.
func (a *Arena) touch(core int, at int, choose func(word int) access) api.Errno {
	if e := a.wrongCore(core); e != api.OK {
		return e
	}
	if at < 0 || at >= len(a.words) {
		return api.ErrArenaPlace
	}
	w, write := choose(a.words[at]).(writing)
	if write {
		a.words[at] = w.v
	}
	a.traces[core] = append(a.traces[core], api.Access{At: at, Write: write})
	return api.OK
}
