package alloc

import (
	"math/bits"
	"testing"

	"concourse/api"
)

// whole is a multiple of each number from 1 to 32, so that weights can be parted evenly.
const whole = 144403552893600

// slotSize is the width of the slots in which pieces of a class lie; there are six classes.
func slotSize(class int) int { return 1 << class }

// least is what a piece of that class counts for, at least.
func least(class int) int { return slotSize(class)/2 + 1 + extra }

// weightOfSlot is what, at least, is counted (times whole) for each slot of
// class k of which a piece of class j or above has a word: a piece of class k
// or below lies in one such slot, a greater one in several.
func weightOfSlot(j, k int) int {
	weight := least(j) * whole
	for size := slotSize(k) + 1; size <= mostWords; size++ {
		slots := (size + slotSize(k) - 1) / slotSize(k)
		weight = min(weight, (size+extra)*whole/slots)
	}
	return weight
}

// farthest tells where, at most, pieces that never count for more than most end.
//
// A piece of class k is put into the first slot of that class that is free; so
// each slot ahead of it holds a word of a piece. Pieces of class j end at
// ends[j] at most; behind it are greater ones only, which count for more.
func farthest(most int, weights [6][6]int) int {
	var ends [6]int
	far := 0
	for k := range 6 {
		rest := (most - least(k)) * whole
		if rest < 0 {
			break
		}
		slots := 0
		for j := range k {
			ahead := (ends[j] + slotSize(k) - 1) / slotSize(k)
			more := min(max(ahead-slots, 0), rest/weights[j][k])
			slots += more
			rest -= more * weights[j][k]
			if slots < ahead {
				rest = 0
			}
		}
		slots += rest / weights[k][k]
		far = max(far, (slots+1)*slotSize(k))
		ends[k] = far
	}
	return far
}

// P4.1: in a share of any size, whatever row pieces come and go in, the heap has room for all that a quarter allows.
func TestHeapHasRoom(t *testing.T) {
	var weights [6][6]int
	for k := range 6 {
		for j := range k + 1 {
			weights[j][k] = weightOfSlot(j, k)
		}
	}
	for words := leastShare; words <= api.MaxArena; words++ {
		s := share{words: words}
		room := s.end() - s.heap()
		if far := farthest(s.most(), weights); far > room {
			t.Errorf("a share of %d words: pieces end at %d of %d", words, far, room)
		}
	}
}

// Whatever the share's size, each word of the heap has its group, each group words, and none is outside.
func TestHeapIsItsGroups(t *testing.T) {
	for words := leastShare; words <= api.MaxArena; words++ {
		s := share{at: 7, words: words}
		last := s.groups() - 1
		if s.beginsAt(last) != s.heap()-1 || s.end() > s.at+s.words || s.end() <= s.heap()+last*groupWords {
			t.Errorf("a share of %d words: %d groups, a heap from %d to %d", words, last+1, s.heap(), s.end())
		}
		if rows := (s.end() - s.heap() + groupWords - 1) / groupWords; rows != last+1 {
			t.Errorf("a share of %d words: %d groups, but words for %d", words, last+1, rows)
		}
	}
}

// A piece's slot is as wide as its class says, and each slot is tried.
func TestFit(t *testing.T) {
	for size := 1; size <= mostWords; size++ {
		class := bits.Len(uint(size - 1))
		if size > slotSize(class) || size+extra < least(class) {
			t.Errorf("size %d, class %d", size, class)
		}
		for at := 0; at < groupWords; at += slotSize(class) {
			taken := ^(ones(size) << at)
			if bit, ok := fit(taken, size); !ok || bit != at {
				t.Errorf("size %d: %d, %v, want %d", size, bit, ok, at)
			}
		}
		if bit, ok := fit(0, size); bit != 0 || !ok {
			t.Errorf("size %d: %d, %v in an empty group", size, bit, ok)
		}
		if _, ok := fit(^uint32(0), size); ok {
			t.Errorf("size %d fits into a full group", size)
		}
	}
}
