package name_test

import (
	"strings"
	"testing"

	"concourse/api"
)

// P8.1: letters, digits, blanks and signs.
func TestOrdinaryNames(t *testing.T) {
	for _, s := range []string{
		"a", "Z", "0", "readme", "README.md", "x y", " ", "   ", " a", "a ", "notes-2", "a_b", "~", "!", "@#$%^&*()",
		"\\", "\"quoted\"", "'", "`", "{}[]<>", "a:b;c", "+-=", "?|,", "nul", "a.b.c", ".hidden", "..hidden", "end.", "end..",
	} {
		wantCheck(t, s, api.OK)
	}
}

// P8.1: runes of one, two, three and four bytes, one and several, with others around them.
func TestNamesOfManyRunes(t *testing.T) {
	for _, s := range edges() {
		wantCheck(t, s, api.OK)
		wantCheck(t, s+s, api.OK)
		wantCheck(t, s+s+s, api.OK)
		wantCheck(t, "a"+s, api.OK)
		wantCheck(t, s+"a", api.OK)
		wantCheck(t, "é"+s+"語", api.OK)
	}
	for _, s := range []string{"日本語の", "grüße", "αβγ", "Привет", "a\u00e9\u20ac\U0001F600"} {
		wantCheck(t, s, api.OK)
	}
}

// P8.1: every rune of one byte, and of two some: 31, 32, 126, 127 and 128 are among them.
func TestEachSmallRune(t *testing.T) {
	for r := rune(0); r < 300; r++ {
		want := api.OK
		if r < 32 || r == 127 || r == 47 {
			want = api.ErrNameForm
		}
		wantCheck(t, "a"+string(r), want)
		wantCheck(t, string(r)+"a", want)
		wantCheck(t, "a"+string(r)+"a", want)
		if r != 46 {
			wantCheck(t, string(r), want)
		}
	}
	for _, r := range []rune{31, 0, 10, 127} {
		wantCheck(t, string(r), api.ErrNameForm)
	}
	for _, r := range []rune{32, 126, 128} {
		wantCheck(t, string(r), api.OK)
	}
}

// P8.1: no byte at all; texts of points.
func TestNoByteAndPoints(t *testing.T) {
	wantCheck(t, "", api.ErrNameForm)
	wantCheck(t, ".", api.ErrNameForm)
	wantCheck(t, "..", api.ErrNameForm)
	for n := 3; n <= api.MaxName; n++ {
		wantCheck(t, strings.Repeat(".", n), api.OK)
	}
	wantCheck(t, strings.Repeat(".", api.MaxName+1), api.ErrNameLong)
	for _, s := range []string{" .", ". ", ".. ", " ..", ". .", "a.", ".a", "..a", "a..", "\u2024", "\u2025", "\uff0e"} {
		wantCheck(t, s, api.OK)
	}
}

// P8.1: '/' alone, at the beginning, within, at the end; runes that have its low bits, or look like it.
func TestStrokes(t *testing.T) {
	for _, s := range []string{"/", "//", "/a", "a/", "a/b", "a//b", "/a/", "./", "/.", "../", "./a", "é/", "/é", "1234567890/2"} {
		wantCheck(t, s, api.ErrNameForm)
	}
	for _, s := range []string{"\\", "\u012f", "\u2044", "\u2f2f", "\u2215", "\uff0f", "\U0001002f"} {
		wantCheck(t, s, api.OK)
	}
}

// P8.1: it goes by bytes: MaxName of them, one fewer and one more, of runes of one byte and of several.
func TestLengths(t *testing.T) {
	for n := 1; n <= api.MaxName; n++ {
		wantCheck(t, strings.Repeat("x", n), api.OK)
	}
	for _, s := range []string{
		"123456789012", "éééééé", "日本語の", "\U0001F600\U0001F601\U0001F602", "ééééé..", "日本語abc", "日本語é1",
		"\U0001F600\U0001F6011234", "\ufffd\ufffd\ufffd\ufffd",
	} {
		if len(s) != 12 {
			t.Fatalf("%q has %d bytes", s, len(s))
		}
		wantCheck(t, s, api.OK)
		wantCheck(t, s+"a", api.ErrNameLong)
		wantCheck(t, "a"+s, api.ErrNameLong)
		wantCheck(t, s+"é", api.ErrNameLong)
	}
	wantCheck(t, "1234567890é", api.OK)
	for _, s := range []string{"12345678901é", "日本語のé", "日本語の語", "ééééééé", "\U0001F600\U0001F600\U0001F600\U0001F600"} {
		wantCheck(t, s, api.ErrNameLong) // 12 runes and fewer, but more than 12 bytes
	}
	for _, n := range []int{13, 14, 24, 255, 256, 268, 65536 + 5, 1 << 20} {
		wantCheck(t, strings.Repeat("x", n), api.ErrNameLong)
	}
}

// P8.1, R6: a text that is too long is that, whatever stands in it.
func TestLongComesFirst(t *testing.T) {
	for _, wrong := range append(strays(), "/", "\x00", "\x1f", "\x7f", ".", "..") {
		wantCheck(t, wrong+"123456789012", api.ErrNameLong)
		wantCheck(t, "123456789012"+wrong, api.ErrNameLong)
		wantCheck(t, "123456"+wrong+"7890123", api.ErrNameLong)
		wantCheck(t, strings.Repeat(wrong, 13), api.ErrNameLong)
	}
	wantCheck(t, "12345678901/", api.ErrNameForm)
	wantCheck(t, "12345678901\xff", api.ErrNameForm)
	wantCheck(t, "\x00\x00\x00\x00\x00\x00\x00\x00\x00\x00\x00\x00", api.ErrNameForm)
}

// P8.1: bytes that no UTF-8 tells, alone, behind others, ahead of others and among them.
func TestStrays(t *testing.T) {
	for _, s := range strays() {
		for _, text := range []string{s, "a" + s, s + "a", "a" + s + "a", "é" + s, s + "é", "\ufffd" + s, s + "\ufffd"} {
			if len(text) > api.MaxName {
				t.Fatalf("%q is too long", text)
			}
			wantCheck(t, text, api.ErrNameForm)
		}
	}
}

// P8.1: the rune 65533, written as UTF-8, is a rune as any other; a piece of it is none.
func TestTheRune65533(t *testing.T) {
	whole := "\xef\xbf\xbd"
	for _, s := range []string{whole, whole + whole, "a" + whole, whole + "a", "a" + whole + "b", "é" + whole, whole + "\U0001F600"} {
		wantCheck(t, s, api.OK)
	}
	for _, s := range []string{
		whole[:1], whole[:2], whole[1:], whole[2:], whole + whole[:1], whole + whole[:2], whole[:1] + whole, whole[:2] + whole,
		whole + whole[2:], whole[1:] + whole, whole[:2] + "a", whole + "\xff", "\xff" + whole, whole + "/", whole + "\x7f",
	} {
		wantCheck(t, s, api.ErrNameForm)
	}
}
