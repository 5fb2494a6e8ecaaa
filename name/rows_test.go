package name_test

import (
	"sync"
	"testing"

	"concourse/api"
	"concourse/name"
)

// pieces are what texts are put together of.
func pieces() []string {
	all := append(strays(), edges()...)
	return append(all, "", "", "", ".", "..", "/", "\x00", "\x1f", " ", "a", "Zz", "09", "~", "\x7f", "é", "語", "\U0001F600")
}

// P8.1, P8.2: texts of any pieces, held against the plain ones.
func TestTextsOfPieces(t *testing.T) {
	all := pieces()
	for _, one := range all {
		for _, two := range all {
			wantPlain(t, one+two)
			wantPlain(t, one+"a"+two)
		}
	}
	g := row(1)
	for range 20000 {
		s := ""
		for range g.below(7) {
			s += all[g.below(len(all))]
		}
		wantPlain(t, s)
	}
}

// P8.1, P8.2: every text of one byte and of two.
func TestTextsOfTwoBytes(t *testing.T) {
	for one := range 256 {
		wantPlain(t, string([]byte{byte(one)}))
		for two := range 256 {
			wantPlain(t, string([]byte{byte(one), byte(two)}))
		}
	}
}

// P8.1, P8.2: texts of any bytes, of which many begin runes.
func TestTextsOfBytes(t *testing.T) {
	g := row(2)
	for range 50000 {
		s := make([]byte, g.below(18))
		for at := range s {
			s[at] = byte(g.below(256))
			if g.below(3) == 0 {
				s[at] = []byte{0xc3, 0xe2, 0xed, 0xef, 0xf0, 0xf4, 0xbf, 0xbd, 0x80, 0x90, 'a'}[g.below(11)]
			}
		}
		wantPlain(t, string(s))
	}
}

// P8.1, P8.2: every rune that there is.
func TestEveryRune(t *testing.T) {
	for r := rune(0); r <= 1114111; r++ {
		s := string(r)
		number := int(r)
		want := api.OK
		if r >= 0xd800 && r <= 0xdfff {
			number = 65533 // what string makes of them
		}
		if r < 32 || r == 127 || r == '/' || r == '.' {
			want = api.ErrNameForm
		}
		if e := name.Check(s); e != want {
			t.Fatalf("Check of rune %d: %d, want %d", r, e, want)
		}
		if hash := name.Hash(s); hash != 217+number || name.Runes(s) != 1 {
			t.Fatalf("rune %d: hash %d, %d runes", r, hash, name.Runes(s))
		}
	}
}

// R5: several goroutines may call at one time, and are told the same.
func TestCallsAtOneTime(t *testing.T) {
	all := pieces()
	var group sync.WaitGroup
	for range 4 {
		group.Go(func() {
			for _, s := range all {
				wantPlain(t, s+"x")
			}
		})
	}
	group.Wait()
}
