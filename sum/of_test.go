package sum_test

import (
	"hash/fnv"
	"math/big"
	"strings"
	"testing"

	"concourse/sum"
)

// P18.1: texts whose sums are known.
func TestKnownSums(t *testing.T) {
	for s, want := range map[string]string{
		"":                   "cbf29ce484222325",
		"a":                  "af63dc4c8601ec8c",
		"b":                  "af63df4c8601f1a5",
		"c":                  "af63de4c8601eff2",
		"fo":                 "08985907b541d342",
		"foo":                "dcb27518fed9d577",
		"foob":               "dd120e790c2512af",
		"fooba":              "cac165afa2fef40a",
		"foobar":             "85944171f73967e8",
		"hello":              "a430d84680aabd0b",
		"chongo was here!\n": "46810940eff5f915",
		"\x00":               "af63bd4c8601b7df",
		"\x00\x00":           "08328807b4eb6fed",
		"\xff":               "af64724c8602eb6e",
		"\xff\xff":           "0a99c907b6f64763",
		"é":                  "0ac21707b7181e01",
		"日本語":                "ee9ee2b5c854ef87",
		"\U0001F600":         "feff073875020288",
	} {
		wantSum(t, s, want)
	}
}

// P18.1: of the empty text the number that the rule goes from.
func TestSumOfNothing(t *testing.T) {
	wantOf(t, "", 14695981039346656037)
	wantOf(t, strings.Repeat("a", 0), 14695981039346656037)
	wantOf(t, "text"[2:2], 14695981039346656037)
}

// P18.1: the exclusive-or is ahead of the product. The start ends on the byte 0x25,
// so for these bytes the exclusive-or takes its bits away or adds new ones alone.
func TestSumOfOneByteByHand(t *testing.T) {
	var start, factor uint64 = 14695981039346656037, 1099511628211
	wantOf(t, "\x25", (start-0x25)*factor)
	wantOf(t, "\x24", (start-0x24)*factor)
	wantOf(t, "\x00", start*factor)
	wantOf(t, "\x02", (start+2)*factor)
	wantOf(t, "\x80", (start+128)*factor)
}

// P18.1: each of the 256 bytes alone, twice, and behind and ahead of others.
func TestSumsOfEachByte(t *testing.T) {
	for b := range 256 {
		s := string([]byte{byte(b)})
		wantPlain(t, s)
		wantPlain(t, s+s)
		wantPlain(t, "ab"+s)
		wantPlain(t, s+"ab")
	}
}

// P18.1: every text of two bytes.
func TestSumsOfEveryTwoBytes(t *testing.T) {
	for one := range 256 {
		for two := range 256 {
			wantPlain(t, string([]byte{byte(one), byte(two)}))
		}
	}
}

// P18.1: every length up to some hundreds, of bytes of any row, and of 0 and 255 alone.
func TestSumsOfManyLengths(t *testing.T) {
	g := row(1)
	for n := range 600 {
		wantPlain(t, g.bytes(n))
		wantPlain(t, strings.Repeat("\x00", n))
		wantPlain(t, strings.Repeat("\xff", n))
		wantPlain(t, strings.Repeat("a", n))
	}
}

// P18.1: bytes that are no whole rune count for themselves, and a rune of several
// bytes counts byte by byte.
func TestSumsOfBytesNotRunes(t *testing.T) {
	for _, s := range strange() {
		wantPlain(t, s)
		wantPlain(t, "x"+s+"y"+s)
		for n := range 30 {
			wantPlain(t, strings.Repeat(s, n))
		}
	}
	if sum.Of("\xff") == sum.Of("\xfe") || sum.Of("\xff") == sum.Of("\ufffd") {
		t.Error("Of: a byte that is no rune has the sum of another")
	}
}

// P18.1: the pieces of runes, cut at each byte.
func TestSumsOfCutRunes(t *testing.T) {
	text := "aé€日\U0001F600\U0010FFFF\ufffd\xffz"
	for from := range len(text) + 1 {
		for to := from; to <= len(text); to++ {
			wantPlain(t, text[from:to])
		}
	}
}

// P18.1: long texts, at whose ends the product has run past 2^64 many times.
func TestSumsOfLongTexts(t *testing.T) {
	g := row(2)
	for _, n := range []int{1000, 4095, 4096, 4097, long - 1, long, long + 1, 5 * long} {
		wantPlain(t, g.bytes(n))
		wantPlain(t, strings.Repeat("\xff", n))
		wantPlain(t, strings.Repeat("é", n/2))
	}
}

// P18.1: a text of zeros is products alone: the start times a power of the factor.
func TestSumsOfZeros(t *testing.T) {
	modulus := new(big.Int).Lsh(big.NewInt(1), 64)
	for _, n := range []int{0, 1, 2, 63, 64, 1000, long, 1 << 24} {
		want := new(big.Int).Exp(big64("1099511628211"), big.NewInt(int64(n)), modulus)
		want.Mul(want, big64("14695981039346656037")).Mod(want, modulus)
		wantOf(t, string(make([]byte, n)), want.Uint64())
	}
}

// P18.1: the way back: by the factor's inverse and the bytes from the last on, a
// sum goes back to the start.
func TestSumsGoBack(t *testing.T) {
	modulus := new(big.Int).Lsh(big.NewInt(1), 64)
	inverse := new(big.Int).ModInverse(big64("1099511628211"), modulus).Uint64()
	g := row(3)
	for n := range 2000 {
		s := g.bytes(n)
		x := sum.Of(s)
		for at := len(s) - 1; at >= 0; at-- {
			x = x*inverse ^ uint64(s[at])
		}
		if x != 14695981039346656037 {
			t.Fatalf("Of a text of %d bytes goes back to %d", n, x)
		}
	}
}

// P18.1: the library's own reckoning of that rule.
func TestSumsAreTheLibrarys(t *testing.T) {
	g := row(4)
	for range 5000 {
		s := g.bytes(int(g.next() % 300))
		h := fnv.New64a()
		h.Write([]byte(s))
		wantOf(t, s, h.Sum64())
	}
}

// P18.1: the row of the bytes counts, and their number.
func TestSumsHangOnTheRow(t *testing.T) {
	g := row(5)
	all := map[uint64]string{}
	texts := append(strange(), "", "ab", "ba", "abc", "acb", "bca", "\x00\x00\x00", "a\x00\x00", "\x00a\x00", "a", "aa", "aaa", " a", "a ", "A")
	for range 2000 {
		texts = append(texts, g.bytes(int(g.next()%40)))
	}
	for _, s := range texts {
		x := sum.Of(s)
		if other, ok := all[x]; ok && other != s {
			t.Errorf("Of(%q) and Of(%q): %d", s, other, x)
		}
		all[x] = s
	}
}
