package name_test

import (
	"math/big"
	"testing"

	"concourse/api"
	"concourse/name"
)

// row is a row of numbers that is the same in each run.
type row uint64

func (r *row) below(n int) int {
	*r = *r*6364136223846793005 + 1442695040888963407
	return int(uint64(*r) >> 33 % uint64(n))
}

// plainRune is what stands at a text's beginning: a number, or, of a byte that no UTF-8 tells, 65533.
type plainRune struct {
	number int
	length int
	stray  bool
}

// following tells how many bytes follow a first one, the bits that it gives, and the least number that needs so many.
func following(first byte) (count int, bits int, least int) {
	switch {
	case first < 0x80:
		return 0, int(first), 0
	case first >= 0xc0 && first < 0xe0:
		return 1, int(first - 0xc0), 0x80
	case first >= 0xe0 && first < 0xf0:
		return 2, int(first - 0xe0), 0x800
	case first >= 0xf0 && first < 0xf8:
		return 3, int(first - 0xf0), 0x10000
	}
	return -1, 0, 0
}

// firstRune reads UTF-8 byte by byte, as its definition says.
func firstRune(s string) plainRune {
	stray := plainRune{number: 65533, length: 1, stray: true}
	count, number, least := following(s[0])
	if count < 0 || count >= len(s) {
		return stray
	}
	for at := 1; at <= count; at++ {
		if s[at] < 0x80 || s[at] > 0xbf {
			return stray
		}
		number = number*64 + int(s[at]-0x80)
	}
	if number < least || number > 1114111 || number >= 0xd800 && number <= 0xdfff {
		return stray
	}
	return plainRune{number: number, length: count + 1}
}

// plainRunes are all of a text.
func plainRunes(s string) []plainRune {
	var all []plainRune
	for len(s) > 0 {
		r := firstRune(s)
		all = append(all, r)
		s = s[r.length:]
	}
	return all
}

// plainCheck is P8.1, word by word.
func plainCheck(s string) api.Errno {
	if len(s) > 12 {
		return api.ErrNameLong
	}
	if s == "" || s == "." || s == ".." {
		return api.ErrNameForm
	}
	for _, r := range plainRunes(s) {
		if r.stray || r.number == 47 || r.number < 32 || r.number == 127 {
			return api.ErrNameForm
		}
	}
	return api.OK
}

// plainHash is P8.2, word by word: the modulo is taken of the whole number at the end alone.
func plainHash(s string) int {
	hash := big.NewInt(7)
	for _, r := range plainRunes(s) {
		hash.Mul(hash, big.NewInt(31))
		hash.Add(hash, big.NewInt(int64(r.number)))
	}
	return int(hash.Mod(hash, big.NewInt(1<<32)).Int64())
}

// wantPlain fails unless every call answers of a text what the plain ones say.
func wantPlain(t *testing.T, s string) {
	t.Helper()
	wantCheck(t, s, plainCheck(s))
	hash := plainHash(s)
	wantNumbers(t, s, hash, hash%8, len(plainRunes(s)))
}

// wantCheck fails unless Check answers this, and May whether it is OK.
func wantCheck(t *testing.T, s string, want api.Errno) {
	t.Helper()
	if e := name.Check(s); e != want {
		t.Errorf("Check(%.40q): %d, want %d", s, e, want)
	}
	if may := name.May(s); may != (want == api.OK) {
		t.Errorf("May(%.40q): %t, want %t", s, may, want == api.OK)
	}
}

// wantNumbers fails unless Hash, Bucket and Runes answer these.
func wantNumbers(t *testing.T, s string, hash, bucket, runes int) {
	t.Helper()
	if h := name.Hash(s); h != hash {
		t.Errorf("Hash(%.40q): %d, want %d", s, h, hash)
	}
	if b := name.Bucket(s); b != bucket {
		t.Errorf("Bucket(%.40q): %d, want %d", s, b, bucket)
	}
	if n := name.Runes(s); n != runes {
		t.Errorf("Runes(%.40q): %d, want %d", s, n, runes)
	}
}
