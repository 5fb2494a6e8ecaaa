package layout_test

import (
	"strings"
	"testing"

	"concourse/api"
	"concourse/layout"
)

// fields is a body of a state that may be, field by field; those that are numbers are told apart by their places.
func fields() ([]string, []int) {
	all := []string{"CNC1",
		"\x02", "\x01", "\x00", // Made
		"\x02",                                      // inodes
		"\x01", "\x01", "\x01", "\x01", "a", "\x02", // 1, a directory, 1 entry: a, 2
		"\x02", "\x00", "\x01", "x", // 2, a file, 1 byte
	}
	var numbers []int
	for at, one := range all {
		if len(one) == 1 && one[0] < 32 {
			numbers = append(numbers, at)
		}
	}
	return all, numbers
}

// with gives the body with another field at a place.
func with(at int, field string) string {
	all, _ := fields()
	all[at] = field
	return summed(strings.Join(all, ""))
}

// longer gives a number in so many parts, though fewer would do.
func longer(n string, parts int) string {
	b := []byte(n + strings.Repeat("\x00", parts-len(n)))
	for at := range b[:parts-1] {
		b[at] |= 128
	}
	return string(b)
}

// P19.1: a number of more parts than it needs, of each field.
func TestNumbersOfTooManyParts(t *testing.T) {
	all, numbers := fields()
	if _, e := layout.Get(summed(strings.Join(all, ""))); e != api.OK || len(numbers) != 12 {
		t.Fatalf("%d numbers, error %d", len(numbers), e)
	}
	for _, at := range numbers {
		for parts := 2; parts <= 24; parts++ {
			wantForm(t, with(at, longer(all[at], parts)))
		}
	}
	for _, long := range []string{longer("\xff\x01", 3), longer("\x81\x02", 3), longer("\xff\xff\xff\xff\x07", 6), longer("\xff\xff\xff\xff\x07", 8)} {
		for _, at := range numbers {
			wantForm(t, with(at, long))
		}
	}
}

// P19.1: numbers up to 2^31 - 1 are of a right form where no count stands; those above are of none anywhere.
func TestNumbersAboveAll(t *testing.T) {
	_, numbers := fields()
	free := map[int]bool{2: true, 3: true, 5: true, 10: true, 11: true} // Made, the inodes' numbers, the entry's
	for _, at := range numbers {
		for _, n := range []int{33, 127, 128, 1000, 16383, 16384, 1<<21 - 1, 1 << 21, 1<<28 - 1, 1 << 28, 1<<31 - 2, 1<<31 - 1} {
			if free[at] {
				wantState(t, with(at, num(n)))
			} else {
				wantForm(t, with(at, num(n)))
			}
		}
		for _, n := range []int{1 << 31, 1<<31 + 1, 1<<32 - 1, 1 << 32, 1<<32 + 1, 1<<32 + 2, 1 << 35, 1<<42 + 2, 1<<49 + 1, 1<<55 + 1, 1<<56 - 1} {
			wantForm(t, with(at, num(n)))
		}
	}
}

// P19.1: numbers of more than 8 parts, such that a part that went over the brim would leave a number that may be.
func TestNumbersOfMoreThan8Parts(t *testing.T) {
	all, numbers := fields()
	for _, at := range numbers {
		low := all[at][0]
		for parts := 8; parts <= 40; parts++ {
			for _, high := range []byte{1, 2, 4, 64, 127} {
				b := strings.Repeat("\x80", parts-2) + string([]byte{high})
				wantForm(t, with(at, string([]byte{low | 128})+b))
			}
			wantForm(t, with(at, strings.Repeat("\xff", parts-1)+"\x01"))
			wantForm(t, with(at, strings.Repeat("\xff", parts)))
		}
	}
	wantForm(t, with(2, strings.Repeat("\x80", api.MaxText-100)+"\x01"))
}

// P19.1: bytes that end too early, behind each of a body's, and within a number.
func TestBytesThatEnd(t *testing.T) {
	for _, s := range []api.State{aState(), greatState(6000)} {
		front := plainBody(kept(s))
		for end := range len(front) {
			wantForm(t, summed(front[:end]))
			if end >= 5 {
				wantForm(t, summed(front[:end]+"\x80"))
			}
		}
	}
}

// P19.1: bytes behind the end, though they are a body again, or the same ones.
func TestBytesBehindTheEnd(t *testing.T) {
	front := plainBody(kept(aState()))
	for b := range 256 {
		wantForm(t, summed(front+string([]byte{byte(b)})))
	}
	wantForm(t, summed(front+front))
	wantForm(t, summed(front+file(12, "")))
	wantForm(t, summed(summed(front)))
	wantForm(t, summed(front+strings.Repeat("\x00", 1000)))
}

// P19.1: the form is asked ahead of the state, though what is wrong with the form comes behind.
func TestFormAheadOfState(t *testing.T) {
	for _, front := range []string{
		body(made(33), aRoot()) + "\x00",
		body(made(), aRoot()) + "\x00",
		body(made(0), file(1, "x")) + "\x00",
		body(made(0), directory(0), file(2, strings.Repeat("x", 257))),
		body(made(0), directory(1, entry("", 1)), file(1<<31, "")),
		body(made(0), directory(1, entry("..", 7), entry("1234567890123", 7))),
		body(made(33), num(1)+"\x02\x00"),
	} {
		wantForm(t, summed(front))
	}
}

// P19.1: states that may not be, in a right form, as they are told without looking.
func TestRightFormOfWrongStates(t *testing.T) {
	inForm := map[string]int{}
	for what, turn := range wrongStates() {
		s := turned(turn)
		front := plainBody(s)
		read, ok := plainRead(front)
		s.Open = nil
		if !ok || show(read) != show(s) {
			continue // such as no bytes tell
		}
		inForm[what]++
		wantState(t, summed(front))
	}
	if len(inForm) < 20 {
		t.Errorf("%d only: %v", len(inForm), inForm)
	}
	wantState(t, summed(plainBody(aState()))) // what is open alone is not open here
}
