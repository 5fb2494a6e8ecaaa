package sum_test

import (
	"strings"
	"testing"

	"concourse/sum"
)

// wantAllUnlike fails unless the 256 texts which differ from s at that place alone
// have unlike sums, s with its own.
func wantAllUnlike(t *testing.T, s string, place int) {
	t.Helper()
	text := []byte(s)
	sums, signs := map[uint64]int{}, map[string]int{}
	for b := range 256 {
		text[place] = byte(b)
		x := sum.Of(string(text))
		if other, ok := sums[x]; ok {
			t.Errorf("Of(%s), bytes %d and %d at %d: %d", told(s), other, b, place, x)
		}
		sums[x] = b
		signs[sum.Hex(x)] = b
	}
	if len(signs) != 256 {
		t.Errorf("Hex of 256 unlike sums: %d texts", len(signs))
	}
	if b, ok := sums[sum.Of(s)]; !ok || byte(b) != s[place] {
		t.Errorf("Of(%s) is the sum with %d at %d", told(s), b, place)
	}
}

// P18.2: at each place of short texts: the first, the last, those between.
func TestOneByteAtEachPlace(t *testing.T) {
	g := row(9)
	for n := 1; n <= 24; n++ {
		for _, s := range []string{g.bytes(n), strings.Repeat("\x00", n), strings.Repeat("\xff", n), strings.Repeat("x", n)} {
			for place := range n {
				wantAllUnlike(t, s, place)
			}
		}
	}
}

// P18.2: in texts that are no whole runes, and in runes of several bytes.
func TestOneByteOfStrangeTexts(t *testing.T) {
	for _, s := range strange() {
		for place := range len(s) {
			wantAllUnlike(t, s, place)
			wantAllUnlike(t, "é"+s+"\xc3", 2+place)
		}
	}
}

// P18.2: at the first, a middle and the last place of long texts.
func TestOneByteOfLongTexts(t *testing.T) {
	g := row(10)
	for _, n := range []int{255, 256, 257, 1000, long - 1, long} {
		s := g.bytes(n)
		for _, place := range []int{0, 1, n / 2, n - 2, n - 1} {
			wantAllUnlike(t, s, place)
		}
	}
}

// P18.2: one bit alone, at each place of a text of the size of a file.
func TestOneBit(t *testing.T) {
	g := row(11)
	s := g.bytes(256)
	own := sum.Of(s)
	for place := range len(s) {
		for bit := range 8 {
			text := []byte(s)
			text[place] ^= 1 << bit
			if x := sum.Of(string(text)); x == own {
				t.Errorf("Of: bit %d of byte %d turned: %d still", bit, place, x)
			}
		}
	}
}

// P18.2: two texts of any row that differ in one byte alone.
func TestOneByteOfAnyTexts(t *testing.T) {
	g := row(12)
	for range 20000 {
		text := []byte(g.bytes(1 + int(g.next()%200)))
		own := sum.Of(string(text))
		place := int(g.next() % uint64(len(text)))
		text[place] += byte(1 + g.next()%255)
		if x := sum.Of(string(text)); x == own {
			t.Fatalf("Of %d bytes, byte %d turned: %d still", len(text), place, x)
		}
	}
}
