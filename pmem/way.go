package pmem

import (
	"concourse/api"
)

// waiting is a flushed line that waits for a fence: unchanged, or held.
type waiting any

// unchanged is a line that nothing was stored to since it was flushed: what is seen is what is on its way.
type unchanged struct{}

// held is a line that was stored to since it was flushed: its words, as they were then.
type held struct {
	words [api.LineWords]uint64
}

// sendOff puts a line on its way; what was on its way of it before is forgotten.
func (m *Mem) sendOff(line int) {
	if m.onWay == nil {
		m.onWay = map[int]waiting{}
	}
	m.onWay[line] = unchanged{}
}

// holdFlushed saves what is on its way of a line that is about to be stored to.
func (m *Mem) holdFlushed(line int) {
	if _, ok := m.onWay[line].(unchanged); ok {
		m.onWay[line] = held{[api.LineWords]uint64(lineOf(m.seen, line))}
	}
}

// arrive lets what is on its way last. The lines lie apart, so their order does not matter.
func (m *Mem) arrive() {
	for line, w := range m.onWay {
		words := lineOf(m.seen, line)
		if h, ok := w.(held); ok {
			words = h.words[:]
		}
		copy(lineOf(m.lasts, line), words)
	}
	// A new map, not a cleared one: going through a map costs by its greatest size.
	m.onWay = nil
}
