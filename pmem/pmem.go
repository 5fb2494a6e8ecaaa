// Package pmem is memory that lasts: words in lines, of which each has what is
// seen and what lasts behind a crash (DOC.md, chapter 1).
package pmem

import (
	"maps"
	"slices"

	"concourse/api"
)

// keepBits is how many bits of a keep count; behind them they come round.
const keepBits = 60

// Mem is a memory. One without words (its zero value) has no place and no line.
type Mem struct {
	seen   []uint64
	lasts  []uint64
	onWay  map[int]waiting // by line; nil is empty
	fuse   fuse
	steps  int
	stores int
}

// New makes a memory of so many words, all 0.
func New(words int) (*Mem, api.Errno) {
	if words < api.LineWords || words > api.MaxWords || words%api.LineWords != 0 {
		return nil, api.ErrPmemSize
	}
	return &Mem{seen: make([]uint64, words), lasts: make([]uint64, words)}, api.OK
}

// Load gives a word as it is seen.
func (m *Mem) Load(at int) (uint64, api.Errno) {
	if m == nil {
		return 0, api.ErrNil
	}
	if at < 0 || at >= len(m.seen) {
		return 0, api.ErrPmemPlace
	}
	return m.seen[at], api.OK
}

// Store lets a word be seen; it lasts no sooner than its line is flushed and fenced.
func (m *Mem) Store(at int, v uint64) api.Errno {
	if m == nil {
		return api.ErrNil
	}
	if at < 0 || at >= len(m.seen) {
		return api.ErrPmemPlace
	}
	m.stores++
	m.step(func(power bool) {
		if power {
			m.holdFlushed(at / api.LineWords)
		}
		m.seen[at] = v
	})
	return api.OK
}

// Flush sends a line on its way, as it is seen now.
func (m *Mem) Flush(line int) api.Errno {
	if m == nil {
		return api.ErrNil
	}
	if line < 0 || line >= m.lines() {
		return api.ErrPmemPlace
	}
	m.step(func(power bool) {
		if power {
			m.sendOff(line)
		}
	})
	return api.OK
}

// Fence lets all that is on its way last.
func (m *Mem) Fence() api.Errno {
	if m == nil {
		return api.ErrNil
	}
	m.step(func(power bool) {
		if power {
			m.arrive()
		}
	})
	return api.OK
}

// Fuse lets the power go behind so many more steps. Where it is gone already, only a Crash brings it back.
func (m *Mem) Fuse(steps int) api.Errno {
	if m == nil {
		return api.ErrNil
	}
	if steps < 0 {
		return api.ErrPmemFuse
	}
	if m.power() {
		m.light(steps)
	}
	return api.OK
}

// Crash leaves of the memory what lasts, and of the lines that are seen otherwise those that keep picks.
func (m *Mem) Crash(keep int) api.Errno {
	if m == nil {
		return api.ErrNil
	}
	m.saveKept(m.seenWithPower(), max(keep, 0))
	copy(m.seen, m.lasts)
	m.onWay = nil
	m.fuse = nil
	return api.OK
}

// Words tells how many words there are.
func (m *Mem) Words() int {
	if m == nil {
		return 0
	}
	return len(m.seen)
}

// Steps tells how many Stores, Flushes and Fences were OK, those without power too.
func (m *Mem) Steps() int {
	if m == nil {
		return 0
	}
	return m.steps
}

// Stores tells how many Stores were OK, those without power too.
func (m *Mem) Stores() int {
	if m == nil {
		return 0
	}
	return m.stores
}

// Copy gives another memory that is as this one is, its fuse and its counts too.
func (m *Mem) Copy() *Mem {
	if m == nil {
		return nil
	}
	return &Mem{
		seen:   slices.Clone(m.seen),
		lasts:  slices.Clone(m.lasts),
		onWay:  maps.Clone(m.onWay),
		fuse:   copyFuse(m.fuse),
		steps:  m.steps,
		stores: m.stores,
	}
}

// lines tells how many lines there are.
func (m *Mem) lines() int {
	return len(m.seen) / api.LineWords
}

// lineOf gives a line's piece of words.
func lineOf(words []uint64, line int) []uint64 {
	return words[line*api.LineWords : (line+1)*api.LineWords]
}

// saveKept lets those of the lines that are not what lasts last as words has them, whose bit of keep is 1.
func (m *Mem) saveKept(words []uint64, keep int) {
	unlike := 0
	for line := range m.lines() {
		now, old := lineOf(words, line), lineOf(m.lasts, line)
		if slices.Equal(now, old) {
			continue
		}
		if keep>>(unlike%keepBits)&1 == 1 {
			copy(old, now)
		}
		unlike++
	}
}
