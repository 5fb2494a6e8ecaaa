package sum_test

import (
	"math/big"
	"strings"
	"testing"

	"concourse/sum"
)

// The calls' forms.
var (
	_ func(string) uint64 = sum.Of
	_ func(uint64) string = sum.Hex
)

// long is as long as the longest text that a layer takes (api.MaxText).
const long = 65536

// row is a row of numbers that is the same in each run.
type row uint64

func (r *row) next() uint64 {
	*r = *r*6364136223846793005 + 1442695040888963407
	x := uint64(*r)
	return x ^ x>>29
}

// bytes is a text of so many bytes, any bytes.
func (r *row) bytes(n int) string {
	text := make([]byte, n)
	for at := range text {
		text[at] = byte(r.next() >> 20)
	}
	return string(text)
}

// big64 is a number, however great.
func big64(digits string) *big.Int {
	x, ok := new(big.Int).SetString(digits, 10)
	if !ok {
		panic(digits)
	}
	return x
}

// plainOf is the chapter's rule on whole numbers, which have no wrap-round: each
// product is taken whole, and what is left of it by 2^64 goes on.
func plainOf(s string) uint64 {
	x, factor := big64("14695981039346656037"), big64("1099511628211")
	modulus := new(big.Int).Exp(big.NewInt(2), big.NewInt(64), nil)
	for _, b := range []byte(s) {
		x.Xor(x, big.NewInt(int64(b)))
		x.Mul(x, factor)
		x.Mod(x, modulus)
	}
	return x.Uint64()
}

// plainHex is a number's digits from the first on: each is how often its power of
// 16 goes into what is left.
func plainHex(x uint64) string {
	left, power := new(big.Int).SetUint64(x), new(big.Int).Exp(big.NewInt(16), big.NewInt(15), nil)
	text := ""
	for range 16 {
		digit := new(big.Int)
		digit.DivMod(left, power, left)
		text += string("0123456789abcdef"[digit.Int64()])
		power.Div(power, big.NewInt(16))
	}
	return text
}

// strange are texts that are no whole runes, and runes of several bytes.
func strange() []string {
	return []string{
		"\x80", "\xbf", "\xc3", "\xc3a", "\xe2\x82", "\xf0\x9f\x98", "\xff", "\xff\xfe", "\xed\xa0\x80", "\xc0\x80",
		"\xf4\x90\x80\x80", "a\xffb", "\xffé\xff", "é", "€", "日本語", "\U0001F600", "\U0010FFFF", "\ufffd", "\u0080",
		"aé€\U0001F600", "\ufeff", "e\u0301", "\x00", "\x00\x00", "a\x00", "\x00a", "\n", "\x7f", "\x00\xff", "\xff\x00",
	}
}

// wantOf fails unless Of answers this.
func wantOf(t *testing.T, s string, want uint64) {
	t.Helper()
	if got := sum.Of(s); got != want {
		t.Errorf("Of(%s): %d, want %d", told(s), got, want)
	}
}

// wantPlain fails unless Of answers what plainOf does.
func wantPlain(t *testing.T, s string) {
	t.Helper()
	wantOf(t, s, plainOf(s))
}

// wantHex fails unless Hex answers this.
func wantHex(t *testing.T, x uint64, want string) {
	t.Helper()
	if got := sum.Hex(x); got != want {
		t.Errorf("Hex(%d): %q, want %q", x, got, want)
	}
}

// wantSum fails unless the sum of a text has these digits.
func wantSum(t *testing.T, s, want string) {
	t.Helper()
	if got := sum.Hex(sum.Of(s)); got != want {
		t.Errorf("Hex(Of(%s)): %s, want %s", told(s), got, want)
	}
}

// told is a text to be read in a failure: a long one by its beginning.
func told(s string) string {
	if len(s) > 40 {
		s = s[:40] + ".."
	}
	return strings.ToValidUTF8(s, "?")
}
