package check_test

import (
	"encoding/binary"
	"hash/fnv"
	"io"
	"slices"
	"strings"
	"testing"

	"concourse/api"
	"concourse/check"
	"concourse/layout"
)

// num is a number as bytes, text a text.
func num(n int) string {
	return string(binary.AppendUvarint(nil, uint64(n)))
}

func text(s string) string {
	return num(len(s)) + s
}

// body is what stands ahead of the sum, of any state whose numbers are from 0 on.
func body(s api.State) string {
	b := "CNC1" + num(len(s.Made))
	for _, count := range s.Made {
		b += num(count)
	}
	b += num(len(s.Inodes))
	for _, x := range s.Inodes {
		if !x.Dir {
			b += num(x.Num) + "\x00" + text(x.Data)
			continue
		}
		b += num(x.Num) + "\x01" + num(len(x.Entries))
		for _, e := range x.Entries {
			b += text(e.Name) + num(e.Num)
		}
	}
	return b
}

// summed gives bytes with their sum behind them.
func summed(b string) string {
	h := fnv.New64a()
	io.WriteString(h, b)
	return b + string(h.Sum(nil))
}

// wantImage fails unless Image finds just this.
func wantImage(t *testing.T, what, b string, want ...api.Finding) {
	t.Helper()
	if got, e := check.Image(b); e != api.OK || !slices.Equal(got, want) {
		t.Errorf("%s: found %v, error %d, want %v", what, got, e, want)
	}
}

// wantRefused fails unless Image refuses bytes with an error, as Get does, and finds nothing.
func wantRefused(t *testing.T, b string, want api.Errno) {
	t.Helper()
	if got, e := check.Image(b); got != nil || e != want {
		t.Errorf("%.100q: found %v, error %d, want %d", b, got, e, want)
	}
	if _, e := layout.Get(b); e != want {
		t.Errorf("%.100q: Get tells error %d, want %d", b, e, want)
	}
}

// P20.2: Image of what Put writes finds nothing.
func TestImagesOfStates(t *testing.T) {
	for _, s := range append(someStates(77, 16), aState(), chain(256)) {
		b, e := layout.Put(s)
		if e != api.OK {
			t.Fatalf("error %d", e)
		}
		wantImage(t, "Put's", b)
	}
}

// P20.2: Image of bytes of no form, and of a wrong sum.
func TestRefusedImages(t *testing.T) {
	good := summed(body(aStateThatLasts()))
	for _, b := range []string{
		"", "C", "CNC1", good[:12], strings.Repeat("x", 12), strings.Repeat("\x00", 65537), good + strings.Repeat("\x00", 65536),
		summed("CNC2\x01\x00\x01\x01\x01\x00"), summed("CNC1\x01\x00\x01\x01\x01\x00\x00"), summed("CNC1\x01\x00\x01\x01\x01"),
		summed("CNC1\x09\x00\x00\x00\x00\x00\x00\x00\x00\x00\x01\x01\x01\x00"), summed("CNC1\x01\x00\x01\x01\x02\x00"),
		summed("CNC1\x01\x80\x00\x01\x01\x01\x00"), summed("CNC1\x01\x80\x80\x80\x80\x08\x01\x01\x01\x00"),
		summed("CNC1\x01\x00\x01\x01\x01\x41"), summed("CNC1\x01\x00\x81\x08"), summed("CNC1\x01\x00\x01\x02\x00\x81\x02" + strings.Repeat("x", 257)),
	} {
		wantRefused(t, b, api.ErrLayoutForm)
	}
	for _, b := range []string{
		strings.Repeat("\x00", 13), strings.Repeat("\x00", 65536), good[1:], good[:len(good)-1], good + "\x00", "x" + good,
		good[:len(good)-8] + strings.Repeat("\x00", 8), "CNC2" + good[4:],
	} {
		wantRefused(t, b, api.ErrLayoutSum)
	}
	for at := range good {
		wantRefused(t, good[:at]+string([]byte{good[at] ^ 1})+good[at+1:], api.ErrLayoutSum)
	}
}

// aStateThatLasts is aState without descriptors and what they alone hold.
func aStateThatLasts() api.State {
	s := aState()
	s.Inodes, s.Open = s.Inodes[:5], nil
	return s
}

// P20.2: Image of bytes with a right sum of a state that may not be, of each kind of findings that bytes can have.
func TestImagesOfWrongStates(t *testing.T) {
	for _, x := range []one{
		{"as it is", func(s *api.State) {}, nil},
		{"no inodes", func(s *api.State) { s.Inodes = nil }, all(f(1, 1))},
		{"nothing at all", func(s *api.State) { *s = api.State{} }, all(f(1, 1), f(8, -1))},
		{"falling", func(s *api.State) { s.Inodes[2], s.Inodes[3] = s.Inodes[3], s.Inodes[2] }, all(f(1, 3))},
		{"the root is 0", func(s *api.State) { s.Inodes[0].Num = 0 }, all(f(1, 0), f(1, 1), f(3, 0), f(4, 0), f(4, 2), f(4, 3), f(4, 4), f(4, 10), f(8, 0))},
		{"not there", func(s *api.State) { s.Inodes[0].Entries[0].Num = 11 }, all(f(2, 1, "a"))},
		{"the greatest number", func(s *api.State) { s.Inodes[0].Entries[0].Num = 1<<31 - 1 }, all(f(2, 1, "a"))},
		{"two entries", func(s *api.State) { s.Inodes[0].Entries[0].Num = 2 }, all(f(3, 2))},
		{"held by nothing", func(s *api.State) { s.Inodes[4].Entries = s.Inodes[4].Entries[:1] }, all(f(4, 4))},
		{"open alone", func(s *api.State) { *s = aState() }, all(f(4, 11))},
		{"a wrong name", func(s *api.State) { s.Inodes[4].Entries[1].Name = "c/" }, all(f(5, 10, "c/"))},
		{"no name", func(s *api.State) { s.Inodes[4].Entries[0].Name = "" }, all(f(5, 10, ""))},
		{"equal names", func(s *api.State) { s.Inodes[4].Entries[1].Name = "b" }, all(f(5, 10, "b"))},
		{"a full bucket", func(s *api.State) { *s = withNames(oneBucket(6, 5)) }, all(f(7, 1))},
		{"64 names", func(s *api.State) { *s = withNames(oneBucket(6, 64)) }, all(f(7, 1))},
		{"33 made", func(s *api.State) { s.Made[1] = 33 }, all(f(8, 1))},
		{"many made", func(s *api.State) { s.Made[2] = 1<<31 - 1 }, all(f(8, 2))},
		{"not yet given", func(s *api.State) { s.Made[0] = 1 }, all(f(8, 10))},
		{"no cores", func(s *api.State) { s.Made = nil }, all(f(8, -1), f(8, 2), f(8, 3), f(8, 4), f(8, 10))},
		{"several", func(s *api.State) { s.Made[0], s.Inodes[0].Entries[0].Num, s.Inodes[4].Entries[1].Name = 1, 7, "\xff" },
			all(f(2, 1, "a"), f(5, 10, "\xff"), f(8, 10))},
	} {
		s := aStateThatLasts()
		x.turn(&s)
		b := summed(body(s))
		wantImage(t, x.what, b, x.want...)
		wantE := api.OK
		if len(x.want) > 0 {
			wantE = api.ErrLayoutState
		}
		if _, e := layout.Get(b); e != wantE {
			t.Errorf("%s: Get tells error %d", x.what, e)
		}
	}
}

// mayBeWritten tells whether bytes can say a state: no number is below 0 or too great, and no count is.
func mayBeWritten(s api.State) bool {
	may := func(n int) bool { return n >= 0 && n < 1<<31 }
	for _, x := range s.Inodes {
		if !may(x.Num) || len(x.Data) > 256 || x.Dir && x.Data != "" || !x.Dir && len(x.Entries) > 0 {
			return false
		}
		for _, e := range x.Entries {
			if !may(e.Num) || len(e.Name) > 12 {
				return false
			}
		}
	}
	return len(s.Made) <= 8 && !slices.ContainsFunc(s.Made, func(count int) bool { return !may(count) })
}

// P20.2: of bytes of any state what State finds of it without descriptors is found, and nothing just if Get takes them.
func TestImagesOfTurnedStates(t *testing.T) {
	g := row(5)
	may, not := 0, 0
	for _, s := range someStates(6, 32) {
		for range 4 {
			x := deepCopy(s)
			for range g.below(4) {
				g.turnState(&x)
			}
			if !mayBeWritten(x) {
				continue
			}
			b := summed(body(x))
			x.Open = nil
			want := plain(x)
			wantImage(t, show(x), b, want...)
			_, e := layout.Get(b)
			if (e == api.OK) != (len(want) == 0) || e != api.OK && e != api.ErrLayoutState {
				t.Fatalf("found %v, and Get tells error %d", want, e)
			}
			if e == api.OK {
				may++
			} else {
				not++
			}
		}
	}
	if may < 500 || not < 500 {
		t.Errorf("%d that may be, %d that may not", may, not)
	}
}

// R1, P20.2: any bytes, with and without a right sum, are refused as Get refuses them.
func TestAnyBytes(t *testing.T) {
	g := row(3)
	good := body(aStateThatLasts())
	seen := map[api.Errno]int{}
	for range 6000 {
		b := []byte(good[:g.below(len(good)+1)])
		for range g.below(4) {
			b = append(b, byte(pick(&g, g.below(256), g.below(4))))
		}
		if len(b) > 0 {
			b[g.below(len(b))] = byte(g.below(256))
		}
		for _, one := range []string{string(b), summed(string(b)), summed("CNC1" + string(b))} {
			_, wantE := layout.Get(one)
			got, e := check.Image(one)
			seen[wantE]++
			if wantE == api.ErrLayoutState {
				wantE = api.OK
				if len(got) == 0 {
					t.Fatalf("%q: nothing is found", one)
				}
			} else if len(got) != 0 {
				t.Fatalf("%q: found %v", one, got)
			}
			if e != wantE {
				t.Fatalf("%q: error %d, want %d", one, e, wantE)
			}
		}
	}
	if len(seen) != 4 || seen[api.ErrLayoutState] < 20 {
		t.Errorf("%v", seen)
	}
}
