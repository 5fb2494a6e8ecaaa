package pmem

import (
	"slices"
)

// fuse is what waits for the power to go, or for it to come back: burning, burnt, or nil where there is none.
type fuse any

// burning is a fuse with steps left, at least one.
type burning struct {
	left int
}

// burnt is a fuse at its end: the words as they were seen then, for the crash to come.
type burnt struct {
	seen []uint64
}

// step counts a step and does its work, which is told whether there is power.
func (m *Mem) step(work func(power bool)) {
	m.steps++
	work(m.power())
	if f, ok := m.fuse.(burning); ok {
		m.light(f.left - 1)
	}
}

// power tells whether no fuse is at its end.
func (m *Mem) power() bool {
	_, gone := m.fuse.(burnt)
	return !gone
}

// light sets a fuse with so many steps left; with none left it is at its end at once.
func (m *Mem) light(left int) {
	if left > 0 {
		m.fuse = burning{left}
		return
	}
	m.fuse = burnt{slices.Clone(m.seen)}
	// No fence can let it last any more.
	m.onWay = nil
}

// seenWithPower gives the words as they are seen, or as they were at the fuse's end.
func (m *Mem) seenWithPower() []uint64 {
	if f, ok := m.fuse.(burnt); ok {
		return f.seen
	}
	return m.seen
}

// copyFuse gives a fuse that shares no words with f.
func copyFuse(f fuse) fuse {
	if b, ok := f.(burnt); ok {
		return burnt{slices.Clone(b.seen)}
	}
	return f
}
