package refs_test

import (
	"slices"
	"testing"

	"concourse/api"
)

// P6.2: an object whose count came back to 0 is told dead at the second end with global part 0, and not ahead of it.
func TestDeadAtTheSecondEnd(t *testing.T) {
	b := makeBook(t, 2, 3, 1, 1)
	b.inc(0, 1)
	b.turn()
	b.turn()
	b.turn()
	b.wantDead()
	b.dec(1, 1)
	b.turn() // 0 at this end, but a Flush added to it
	b.wantDead()
	b.flush(0)
	b.wantDead()
	b.flush(1)
	b.wantDead(1)
}

// P6.2: an object that was never counted is not told dead.
func TestNeverCounted(t *testing.T) {
	b := makeBook(t, 2, 64, 0, 0)
	for range 5 {
		b.turn()
		b.wantDead()
	}
	b.inc(1, 63)
	b.dec(1, 63)
	b.wantDead() // its epoch has not ended
	b.turn()
	b.wantDead(63)
}

// P6.2: one Inc or one Dec of it, by whichever core, is enough to have been counted, also where each part is 0 again.
func TestCountedOnce(t *testing.T) {
	for cores := 1; cores <= api.MaxCores; cores++ {
		for core := range cores {
			for _, obj := range []int{0, 1, 62, 63} {
				b := makeBook(t, cores, 64, 0, 0)
				b.dec(core, obj)
				b.inc(core, obj)
				b.turn()
				b.wantDead()
				b.turn()
				b.wantDead(obj)
			}
		}
	}
}

// P6.2: the two ends are those of two epochs: counts that were just made stand at no end.
func TestTheBeginningIsNoEnd(t *testing.T) {
	b := makeBook(t, 1, 1, 0, 0)
	b.inc(0, 0)
	b.dec(0, 0)
	b.flush(0)
	b.wantDead()
	b.flush(0)
	b.wantDead(0)
}

// P6.2: the two ends stand one behind the other.
func TestEndsThatAreNotOneBehindTheOther(t *testing.T) {
	b := makeBook(t, 2, 1, 0, 0)
	for range 4 {
		b.inc(0, 0)
		b.turn() // 1
		b.wantDead()
		b.dec(1, 0)
		b.turn() // 0
		b.wantDead()
	}
	b.turn()
	b.wantDead(0)
}

// P6.2: a Flush within the later epoch that adds to it, though the sum is 0 again at its end.
func TestAddedToWithinTheLaterEpoch(t *testing.T) {
	b := makeBook(t, 2, 2, 3, 0)
	b.inc(0, 0)
	b.dec(0, 0)
	b.turn()
	for range 3 {
		b.inc(0, 0)
		b.flush(0)
		b.dec(0, 0)
		b.flush(0, 1)
		b.wantDead()
		b.inc(1, 0)
		b.dec(0, 0)
		b.flush(1, 0)
		b.wantDead()
		b.dec(0, 0)
		b.flush(0)
		b.inc(1, 0)
		b.flush(1) // the Flush that ends the epoch adds too
		b.wantDead()
	}
	b.turn()
	b.wantDead(0)
}

// P6.2: the Flush that alone added is any of the epoch's: the first one, one between, the last one.
func TestWhicheverFlushAdds(t *testing.T) {
	for core := range 3 {
		b := makeBook(t, 3, 1, 0, 0)
		b.inc(0, 0)
		b.turn()
		b.turn()
		b.dec(core, 0)
		b.flush(0, 1, 2)
		b.wantDead()
		b.flush(0, 1, 2)
		b.wantDead(0)
	}
}

// P6.2: a Flush that finds a part of 0 adds nothing, whatever was counted between.
func TestPartsOfZeroAddNothing(t *testing.T) {
	b := makeBook(t, 2, 1, 0, 0)
	b.turn()
	b.inc(0, 0)
	b.dec(0, 0)
	b.dec(1, 0)
	b.inc(1, 0)
	b.flush(1, 1, 0)
	b.wantDead(0)
}

// P6.2: what counts is what Flushes find: a count that goes from one core's part to another's between them, within
// these epochs, is found by none, so the object is told dead though its Total is not 0.
func TestACountThatNoFlushFinds(t *testing.T) {
	b := makeBook(t, 2, 1, 0, 0)
	b.inc(0, 0)
	b.turn()
	b.flush(0)
	b.inc(0, 0)
	b.dec(1, 0)
	b.flush(1)
	b.wantCounts(0, 0, 1)
	b.wantDead()
	b.flush(1)
	b.inc(1, 0)
	b.dec(0, 0)
	b.flush(0)
	b.wantCounts(0, 0, 1)
	b.wantDead(0)
}

// P6.2: a count that stays below 0 is not 0.
func TestBelowZeroIsNotDead(t *testing.T) {
	b := makeBook(t, 2, 2, 0, 0)
	b.dec(1, 1)
	for range 4 {
		b.turn()
		b.wantDead()
	}
	b.inc(0, 1)
	b.turn()
	b.turn()
	b.wantDead(1)
}

// P6.2: an epoch that some core has not flushed in has no end, however often the others flush.
func TestAnEpochThatDoesNotEnd(t *testing.T) {
	b := makeBook(t, 3, 2, 0, 0)
	b.inc(0, 1)
	b.dec(0, 1)
	b.turn()
	for range 5 {
		b.flush(0, 1)
		b.wantDead()
	}
	b.flush(2)
	b.wantDead(1)
}

// P6.2: what is told dead is so for ever, whatever follows.
func TestDeadForEver(t *testing.T) {
	b := makeBook(t, 2, 4, 0, 0)
	b.inc(0, 2)
	b.dec(1, 2)
	b.turn()
	b.turn()
	b.wantDead(2)
	b.inc(0, 2)
	b.wantDead(2)
	b.inc(1, 2)
	b.flush(0)
	b.wantDead(2)
	b.turn()
	b.turn()
	b.wantCounts(2, 2, 2)
	b.wantDead(2)
	b.dec(1, 2)
	b.turn()
	b.wantDead(2)
	g := row(5)
	for range 300 {
		someCall(&g, b)
		if !slices.Contains(b.r.Dead(), 2) {
			t.Fatal("object 2 is no longer dead")
		}
	}
}

// P6.2: objects are told rising, in whatever row they died, the first and the last among them.
func TestDeadRising(t *testing.T) {
	b := makeBook(t, 2, 64, 0, 0)
	for _, obj := range []int{40, 63, 0, 41, 7} {
		b.inc(1, obj)
		b.dec(0, obj)
		b.turn()
		b.turn()
	}
	b.inc(0, 6)
	b.turn()
	b.turn()
	b.wantDead(0, 7, 40, 41, 63)
}

// P6.2: all 64 objects are told dead at one end.
func TestAllDeadAtOnce(t *testing.T) {
	b := makeBook(t, 3, 64, 0, 0)
	var all []int
	for obj := range 64 {
		b.inc(obj%3, obj)
		b.dec((obj+1)%3, obj)
		all = append(all, obj)
	}
	b.turn()
	b.wantDead()
	b.turn()
	b.wantDead(all...)
}

// R4: a list that Dead answered is nobody's else.
func TestDeadIsNew(t *testing.T) {
	b := makeBook(t, 1, 3, 0, 0)
	for obj := range 3 {
		b.inc(0, obj)
		b.dec(0, obj)
	}
	b.turn()
	b.turn()
	one := b.r.Dead()
	two := b.r.Dead()
	one[0], one[2] = 9, 9
	if !slices.Equal(two, []int{0, 1, 2}) {
		t.Errorf("another answer is %v", two)
	}
	b.wantDead(0, 1, 2)
}
