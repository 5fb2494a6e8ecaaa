package name_test

import (
	"strings"
	"testing"

	"concourse/api"
	"concourse/name"
)

// P8.2: texts worked out by hand.
func TestKnownNumbers(t *testing.T) {
	for _, c := range []struct {
		s                   string
		hash, bucket, runes int
	}{
		{"", 7, 7, 0},
		{"a", 314, 2, 1},                         // 7 * 31 + 97
		{"b", 315, 3, 1},                         // 7 * 31 + 98
		{"ab", 9832, 0, 2},                       // 314 * 31 + 98
		{"ba", 9862, 6, 2},                       // 315 * 31 + 97
		{"\x00", 217, 1, 1},                      // 7 * 31
		{"\x00\x00", 6727, 7, 2},                 // 7 * 31 * 31
		{"/", 264, 0, 1},                         // 217 + 47
		{".", 263, 7, 1},                         // 217 + 46
		{"\u0080", 345, 1, 1},                    // 217 + 128
		{"é", 450, 2, 1},                         // 217 + 233
		{"€", 8581, 5, 1},                        // 217 + 8364
		{"\U0001F600", 128729, 1, 1},             // 217 + 128512
		{"\U0010FFFF", 1114328, 0, 1},            // 217 + 1114111
		{"\ufffd", 65750, 6, 1},                  // 217 + 65533
		{"\xff", 65750, 6, 1},                    // the same of a byte that is no rune
		{"\xff\xfe", 2103783, 7, 2},              // 65750 * 31 + 65533
		{"\xef\xbf", 2103783, 7, 2},              // each byte for itself
		{"\xed\xa0\x80", 65282806, 6, 3},         // 2103783 * 31 + 65533
		{"\xc3a", 2038347, 3, 2},                 // 65750 * 31 + 97
		{"zzzzz", 316829267, 3, 5},               // below 2^32 yet
		{"zzzzzz", 1231772807, 7, 6},             // 9821707399 modulo 2^32
		{"\U0010FFFF\U0010FFFF", 35658279, 7, 2}, // 1114328 * 31 + 1114111
	} {
		wantNumbers(t, c.s, c.hash, c.bucket, c.runes)
	}
}

// P8.2: bytes that are none are 65533 each, so a stray byte and the rune 65533 have one hash.
func TestNumbersOfStrays(t *testing.T) {
	for _, s := range strays() {
		written := strings.Repeat("\ufffd", len(s))
		wantNumbers(t, s, name.Hash(written), name.Bucket(written), len(s))
		wantNumbers(t, "a"+s+"é", name.Hash("a"+written+"é"), name.Bucket("a"+written+"é"), len(s)+2)
		wantPlain(t, s)
		wantPlain(t, s+"b"+s)
	}
}

// P8.2: runes, not bytes, are counted and hashed.
func TestNumbersOfManyRunes(t *testing.T) {
	for _, s := range edges() {
		wantPlain(t, s)
		for n := range 20 {
			text := strings.Repeat("x"+s, n)
			wantPlain(t, text)
			if got := name.Runes(text); got != 2*n {
				t.Errorf("Runes(%q): %d, want %d", text, got, 2*n)
			}
		}
	}
}

// P8.2: hashes that go beyond 2^32, of names and of texts that are too long: never below 0, never above.
func TestHashesBeyond(t *testing.T) {
	beyond := 0
	for _, s := range []string{"a", "zz", "é", "日", "\U0010FFFF", "\xff", "\x00", "/", "~\x7f"} {
		for n := range 60 {
			text := strings.Repeat(s, n)
			wantPlain(t, text)
			hash := name.Hash(text)
			if hash < 0 || hash >= 1<<32 {
				t.Errorf("Hash(%q): %d", text, hash)
			}
			if hash >= 1<<31 {
				beyond++
			}
		}
	}
	if beyond == 0 {
		t.Error("no hash has its highest bit")
	}
}

// P8.2: texts that are no names, long ones too, have numbers as any other.
func TestNumbersOfLongTexts(t *testing.T) {
	for _, s := range []string{"/", "a/b", "\x00", "\x1f\x7f", "\xff", "日本語", "a\xc3\u00e9\xf0\U0001F600"} {
		wantPlain(t, strings.Repeat(s, 1000))
	}
	long := strings.Repeat("語\xff", 1<<20)
	if n := name.Runes(long); n != 1<<21 {
		t.Errorf("Runes: %d, want %d", n, 1<<21)
	}
	if hash := name.Hash(long); name.Bucket(long) != hash%api.Buckets || hash < 0 || hash >= 1<<32 {
		t.Errorf("Hash %d, Bucket %d", hash, name.Bucket(long))
	}
}

// P8.2: every bucket is that of some name.
func TestEveryBucket(t *testing.T) {
	var seen [api.Buckets]int
	for r := 'a'; r <= 'z'; r++ {
		seen[name.Bucket(string(r))]++
	}
	for bucket, count := range seen {
		if count < 3 {
			t.Errorf("bucket %d has %d of 26 letters", bucket, count)
		}
	}
}
