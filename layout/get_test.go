package layout_test

import (
	"slices"
	"strconv"
	"strings"
	"testing"

	"concourse/api"
	"concourse/layout"
)

// wantForm, wantSum and wantState fail unless Get refuses bytes so.
func wantForm(t *testing.T, b string) {
	t.Helper()
	wantGet(t, b, api.State{}, api.ErrLayoutForm)
}

func wantSum(t *testing.T, b string) {
	t.Helper()
	wantGet(t, b, api.State{}, api.ErrLayoutSum)
}

func wantState(t *testing.T, b string) {
	t.Helper()
	wantGet(t, b, api.State{}, api.ErrLayoutState)
}

// aRoot is an empty root as bytes.
func aRoot() string {
	return directory(1)
}

// P19.1: fewer than 13 bytes are of no form, whatever their sum; of 13 the sum is asked first.
func TestGetOfFewBytes(t *testing.T) {
	all := "CNC1\x01\x00\x01\x01\x01\x00"
	for size := range 13 {
		wantForm(t, strings.Repeat("\x00", size))
		wantForm(t, all[:min(size, len(all))])
		if size >= 8 {
			wantForm(t, summed(all[:size-8]))
		}
	}
	wantSum(t, strings.Repeat("\x00", 13))
	wantSum(t, summed("CNC1\x00")[:12]+"\x05")
	wantForm(t, "CNC1\x00\xa2\xd1\xde\xe2\x0f\xe3\x1c\x04")
	wantForm(t, summed("CNC2\x00"))
	wantForm(t, summed(strings.Repeat("\x00", 5)))
	for size := 13; size < 18; size++ {
		wantSum(t, all[:min(size, len(all))]+strings.Repeat("\x00", max(0, size-len(all))))
		wantForm(t, summed(all[:size-8]))
	}
}

// P19.1: of MaxText bytes the sum is asked first; of one more nothing is asked.
func TestGetOfManyBytes(t *testing.T) {
	many := strings.Repeat("x", api.MaxText-8)
	wantSum(t, many+"12345678")
	wantForm(t, summed(many))
	wantForm(t, summed(many+"x"))
	wantForm(t, many+"x12345678")
	wantForm(t, strings.Repeat("\x00", 1<<24))
}

// P19.1: bytes of a state that may be, MaxText of them, are taken; those with one more are not.
func TestGetOfAStateOfMaxText(t *testing.T) {
	for _, size := range []int{api.MaxText - 1, api.MaxText} {
		s := greatState(size)
		wantBack(t, s)
		if got := layout.Size(s); got != size {
			t.Errorf("%d bytes, not %d", got, size)
		}
	}
	s := greatState(api.MaxText + 1)
	b := summed(plainBody(s))
	wantPut(t, s, b)
	if len(b) != api.MaxText+1 {
		t.Errorf("%d bytes", len(b))
	}
	wantForm(t, b)
}

// P19.1: each byte turned to each other one is found by the sum.
func TestGetOfTurnedBytes(t *testing.T) {
	b, _ := layout.Put(aState())
	for at := range b {
		for other := range 256 {
			if byte(other) != b[at] {
				x := []byte(b)
				x[at] = byte(other)
				wantSum(t, string(x))
			}
		}
	}
	for at := 13; at < len(b); at++ {
		wantSum(t, b[:at])
		wantSum(t, b[len(b)-at:])
	}
	wantSum(t, b+"\x00")
	wantSum(t, "\x00"+b)
}

// P19.1: the sum's highest byte is the first.
func TestGetOfASumTurnedRound(t *testing.T) {
	b, _ := layout.Put(aState())
	tail := []byte(b[len(b)-8:])
	slices.Reverse(tail)
	wantSum(t, b[:len(b)-8]+string(tail))
}

// P19.1: the sum is asked ahead of the form and of the state.
func TestSumAheadOfForm(t *testing.T) {
	for _, front := range []string{"CNC2\x01\x00\x01\x01\x01\x00", "CNC1\x09\x00\x01\x01\x01\x00", "CNC1\x01\x00\x01\x01\x00\x00"} {
		b := []byte(summed(front))
		b[len(b)-1]++
		wantSum(t, string(b))
	}
}

// P19.1: heads that are none.
func TestWrongHeads(t *testing.T) {
	rest := made(0) + "\x01" + aRoot()
	for _, head := range []string{"CNC0", "CNC2", "cnc1", "DNC1", "CMC1", "CNB1", "1CNC", "CNC", "NC1", "CNC1 ", " CNC1", "CNC1CNC1", "\x00\x00\x00\x00", ""} {
		wantForm(t, summed(head+rest))
	}
	for at := range 4 {
		for bit := range 8 {
			head := []byte("CNC1")
			head[at] ^= 1 << bit
			wantForm(t, summed(string(head)+rest))
		}
	}
	if _, e := layout.Get(summed("CNC1" + rest)); e != api.OK {
		t.Errorf("the right one: error %d", e)
	}
}

// P19.1: how many in Made: none, as many as there may be, one more.
func TestCountsOfMade(t *testing.T) {
	wantState(t, summed(body(made(), aRoot())))
	wantGet(t, summed(body(made(0, 1, 2, 3, 4, 5, 31, 32), aRoot())),
		api.State{Made: []int{0, 1, 2, 3, 4, 5, 31, 32}, Inodes: []api.Inode{{Num: 1, Dir: true}}}, api.OK)
	for _, cores := range []int{9, 10, 31, 127, 128, 1000} {
		wantForm(t, summed(body(made(make([]int, cores)...), aRoot())))
	}
	wantState(t, summed(body(made(33), aRoot())))
	wantState(t, summed(body(made(0, 0, 0, 0, 0, 0, 0, 33), aRoot())))
}

// files gives so many files, by number from 2 on, as bytes.
func files(many int) []string {
	var all []string
	for at := range many {
		all = append(all, file(2+at, ""))
	}
	return all
}

// P19.1: how many inodes: more than a state may have, but not above 1024, are of a right form.
func TestCountsOfInodes(t *testing.T) {
	wantState(t, summed(body(made(0))))
	for _, many := range []int{257, 258, 1023, 1024} {
		wantState(t, summed(body(made(32, 32, 32, 32, 32, 32, 32, 32), append(files(many-1), aRoot())...)))
		wantState(t, summed(body(made(0), append([]string{aRoot()}, files(many-1)...)...)))
	}
	for _, many := range []int{1025, 1026, 2000, 8192} {
		wantForm(t, summed(body(made(0), append([]string{aRoot()}, files(many-1)...)...)))
	}
}

// names gives so many entries of an inode, by name rising, as bytes.
func names(many, num int) []string {
	var all []string
	for at := range many {
		all = append(all, entry("n"+strconv.Itoa(1000+at), num))
	}
	return all
}

// P19.1: how many entries: more than a directory may have, but not above 64, are of a right form.
func TestCountsOfEntries(t *testing.T) {
	for _, many := range []int{33, 63, 64} {
		wantState(t, summed(body(made(1), directory(1, names(many, 2)...), file(2, ""))))
	}
	for _, many := range []int{65, 66, 127, 128, 1000} {
		wantForm(t, summed(body(made(1), directory(1, names(many, 2)...), file(2, ""))))
	}
}

// P19.1: a file's bytes: as many as there may be, one more.
func TestCountsOfBytes(t *testing.T) {
	front := "CNC1" + made(1) + num(2) + directory(1, entry("a", 2))
	for _, many := range []int{0, 1, 127, 128, 255, 256} {
		data := strings.Repeat("\x81", many)
		b := summed(front + file(2, data))
		wantGet(t, b, api.State{Made: []int{1}, Inodes: []api.Inode{{Num: 1, Dir: true, Entries: []api.Entry{{Name: "a", Num: 2}}}, {Num: 2, Data: data}}}, api.OK)
	}
	for _, many := range []int{257, 258, 300, 512, 16384, 60000} {
		wantForm(t, summed(front+file(2, strings.Repeat("\x81", many))))
	}
}

// P19.1: a name's bytes: none are a name that may not be, 12 may be, 13 are of no form.
func TestCountsOfNames(t *testing.T) {
	of := func(name string) string { return summed(body(made(1), directory(1, entry(name, 2)), file(2, ""))) }
	for many := 1; many <= 12; many++ {
		name := strings.Repeat("n", many)
		wantGet(t, of(name), api.State{Made: []int{1}, Inodes: []api.Inode{{Num: 1, Dir: true, Entries: []api.Entry{{Name: name, Num: 2}}}, {Num: 2}}}, api.OK)
	}
	for _, name := range []string{"", ".", "..", "a/b", "a\x00", "a\x7f", "\xff", "123456789/12"} {
		wantState(t, of(name))
	}
	for _, many := range []int{13, 14, 64, 127, 128, 255, 256, 257} {
		wantForm(t, of(strings.Repeat("n", many)))
	}
}

// P19.1: kinds that are neither 0 nor 1.
func TestWrongKinds(t *testing.T) {
	for kind := range 300 {
		root := summed(body(made(0), num(1)+num(kind)+"\x00"))
		second := summed(body(made(1), directory(1, entry("a", 2)), num(2)+num(kind)+"\x00"))
		switch kind {
		case 0:
			wantState(t, root)
			wantGet(t, second, api.State{Made: []int{1}, Inodes: []api.Inode{{Num: 1, Dir: true, Entries: []api.Entry{{Name: "a", Num: 2}}}, {Num: 2}}}, api.OK)
		case 1:
			wantGet(t, root, api.State{Made: []int{0}, Inodes: []api.Inode{{Num: 1, Dir: true}}}, api.OK)
			wantGet(t, second, api.State{Made: []int{1}, Inodes: []api.Inode{{Num: 1, Dir: true, Entries: []api.Entry{{Name: "a", Num: 2}}}, {Num: 2, Dir: true}}}, api.OK)
		default:
			wantForm(t, root)
			wantForm(t, second)
		}
	}
}
