package dir_test

import (
	"strings"
	"testing"

	"concourse/api"
	"concourse/name"
)

// lengths calls do with every row of the lengths of runes that come to 1 to MaxName bytes.
func lengths(taken []int, left int, do func([]int)) {
	if len(taken) > 0 {
		do(taken)
	}
	for length := 1; length <= min(left, 4); length++ {
		lengths(append(taken, length), left-length, do)
	}
}

// runeOf gives a rune of so many bytes: the first, the last, or one between them.
func runeOf(length, which int) rune {
	runes := [5][]rune{1: {' ', '~', 'a'}, 2: {0x80, 0x7ff, 'é'}, 3: {0x800, 0xffff, '語'}, 4: {0x10000, 0x10ffff, 0x1f600}}
	return runes[length][which%3]
}

// nameOf puts a name together of runes of these lengths.
func nameOf(row []int, which int) string {
	var s strings.Builder
	for i, length := range row {
		s.WriteRune(runeOf(length, which+i*which))
	}
	return s.String()
}

// P9.1: names of every row of lengths of runes are found, listed, moved and removed as they were.
func TestNamesOfEveryRowOfLengths(t *testing.T) {
	b := makeBook(t, 1, 2, leastWords, 2)
	count := 0
	lengths(nil, api.MaxName, func(row []int) {
		for which := range 4 {
			s := nameOf(row, which)
			if !name.May(s) {
				t.Fatalf("%q may not be", s)
			}
			count++
			b.names = nil
			if b.insert(0, s, count) != api.OK || b.move(0, s, "moved") != api.OK || b.move(0, "moved", s) != api.OK {
				t.Fatalf("%q is refused", s)
			}
			if b.remove(0, s) != api.OK {
				t.Fatalf("%q is not there", s)
			}
		}
	})
	if count < 4*1000 {
		t.Errorf("%d names alone", count)
	}
	b.close()
}

// P9.1: of two names of one bucket that differ in one rune, wherever it stands, only the one that was inserted is there.
func TestOneRuneElsewise(t *testing.T) {
	b := makeBook(t, 1, 0, leastWords, 0)
	lengths(nil, api.MaxName, func(row []int) {
		whole := []rune(nameOf(row, 2))
		s := string(whole)
		b.names = nil
		b.insert(0, s, 1)
		for i := range whole {
			other := []rune(s)
			other[i] ^= 8 // the bucket stays
			near := string(other)
			if name.Bucket(near) != name.Bucket(s) || len(near) != len(s) {
				t.Fatalf("%q and %q are not near", s, near)
			}
			if num, e := b.d.Find(0, near); num != 0 || e != api.ErrDirNone {
				t.Fatalf("%q is there, Find of %q: %d, error %d", s, near, num, e)
			}
			b.insert(0, near, 2)
			b.remove(0, near)
		}
		b.remove(0, s)
	})
}
