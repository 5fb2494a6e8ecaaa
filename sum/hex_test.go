package sum_test

import (
	"fmt"
	"math"
	"strconv"
	"strings"
	"testing"

	"concourse/sum"
)

// P18.1: ordinary numbers and the edges, digit by digit.
func TestHex(t *testing.T) {
	for x, want := range map[uint64]string{
		0:                    "0000000000000000",
		1:                    "0000000000000001",
		9:                    "0000000000000009",
		10:                   "000000000000000a",
		15:                   "000000000000000f",
		16:                   "0000000000000010",
		17:                   "0000000000000011",
		159:                  "000000000000009f",
		160:                  "00000000000000a0",
		255:                  "00000000000000ff",
		256:                  "0000000000000100",
		65535:                "000000000000ffff",
		65536:                "0000000000010000",
		math.MaxInt32:        "000000007fffffff",
		math.MaxUint32:       "00000000ffffffff",
		math.MaxUint32 + 1:   "0000000100000000",
		1 << 53:              "0020000000000000",
		1<<53 + 1:            "0020000000000001",
		math.MaxInt64:        "7fffffffffffffff",
		math.MaxInt64 + 1:    "8000000000000000",
		math.MaxUint64 - 1:   "fffffffffffffffe",
		math.MaxUint64:       "ffffffffffffffff",
		0x0123456789abcdef:   "0123456789abcdef",
		0xfedcba9876543210:   "fedcba9876543210",
		0x00000000deadbeef:   "00000000deadbeef",
		0x00000000000a0b0c:   "00000000000a0b0c",
		0xa000000000000000:   "a000000000000000",
		14695981039346656037: "cbf29ce484222325",
		1099511628211:        "00000100000001b3",
	} {
		wantHex(t, x, want)
	}
}

// P18.1: each digit at each place, alone and among digits that are all f.
func TestHexOfEachDigit(t *testing.T) {
	for place := range 16 {
		for digit := range 16 {
			sign := "0123456789abcdef"[digit : digit+1]
			x := uint64(digit) << (4 * place)
			wantHex(t, x, strings.Repeat("0", 15-place)+sign+strings.Repeat("0", place))
			wantHex(t, ^(uint64(15)<<(4*place))|x, strings.Repeat("f", 15-place)+sign+strings.Repeat("f", place))
		}
	}
}

// P18.1: all numbers of up to four digits.
func TestHexOfSmallNumbers(t *testing.T) {
	for x := range uint64(1 << 16) {
		wantHex(t, x, fmt.Sprintf("%016x", x))
	}
}

// P18.1: numbers of all sizes: at each bit the numbers around its power of 2, and some of that size.
func TestHexOfAllSizes(t *testing.T) {
	g := row(6)
	for bit := range 64 {
		power := uint64(1) << bit
		for _, x := range []uint64{power - 1, power, power + 1, -power, ^power} {
			wantHex(t, x, plainHex(x))
		}
		for range 200 {
			x := g.next() >> (63 - bit)
			wantHex(t, x, plainHex(x))
		}
	}
}

// P18.1: always 16 digits of 0-9, a-f, which tell the number.
func TestHexIsSixteenDigits(t *testing.T) {
	g := row(7)
	for range 20000 {
		x := g.next() >> (g.next() % 64)
		text := sum.Hex(x)
		if len(text) != 16 || strings.Trim(text, "0123456789abcdef") != "" {
			t.Fatalf("Hex(%d): %q", x, text)
		}
		if back, err := strconv.ParseUint(text, 16, 64); back != x || err != nil {
			t.Fatalf("Hex(%d): %q, which is %d, %v", x, text, back, err)
		}
	}
}

// P18.1: the digits stand as the numbers do.
func TestHexRises(t *testing.T) {
	g := row(8)
	for range 20000 {
		a, b := g.next()>>(g.next()%64), g.next()>>(g.next()%64)
		if (a < b) != (sum.Hex(a) < sum.Hex(b)) {
			t.Fatalf("Hex(%d): %s, Hex(%d): %s", a, sum.Hex(a), b, sum.Hex(b))
		}
	}
}
