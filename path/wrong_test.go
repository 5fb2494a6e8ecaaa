package path_test

import (
	"slices"
	"strings"
	"testing"
	"unsafe"

	"concourse/api"
	"concourse/path"
)

// meet tells whether two texts, neither of them empty, have a byte of memory in common.
func meet(one, two string) bool {
	from, other := uintptr(unsafe.Pointer(unsafe.StringData(one))), uintptr(unsafe.Pointer(unsafe.StringData(two)))
	return from < other+uintptr(len(two)) && other < from+uintptr(len(one))
}

// R4: the names' bytes are new memory: not the path's, not those of another answer, nor of one another.
func TestNamesAreNewMemory(t *testing.T) {
	s := strings.Clone("/notes/2026/日本/x")
	one, _ := path.Parse(s)
	two, _ := path.Parse(s)
	texts := append([]string{s}, append(one, two...)...)
	for i := range texts {
		for j := range i {
			if len(texts[i]) > 1 && len(texts[j]) > 1 && meet(texts[i], texts[j]) {
				t.Errorf("%q and %q share memory", texts[i], texts[j])
			}
		}
	}
	text, _ := path.Print(one)
	for _, part := range texts {
		if len(part) > 1 && meet(part, text) {
			t.Errorf("%q and %q share memory", part, text)
		}
	}
}

// P11.1: the empty text, and texts without a stroke ahead.
func TestNoStrokeAhead(t *testing.T) {
	for _, s := range []string{"", "a", "a/b", " ", " /a", ".", "..", "./a", "../a", "\\a", "é", "é/a", "\x00", "\x00/a", "\xff", "\xff/a", "\u2044a", "\uff0fa", "1234567890123"} {
		wantRefused(t, s, api.ErrPathForm)
	}
}

// P11.1: strokes behind one another and at the end leave an empty name.
func TestEmptyNames(t *testing.T) {
	for _, s := range []string{"//", "///", "////", "/////", "//a", "/a//b", "/a//", "/a/", "/a/b/", "/a/b/c/d/", "/a/b//c/d", "//a/b/c/d", "/é/", "//é"} {
		wantRefused(t, s, api.ErrPathForm)
	}
	for _, names := range [][]string{{""}, {"", ""}, {"a", ""}, {"", "a"}, {"a", "", "b"}} {
		wantPrint(t, names, "", api.ErrPathForm)
	}
}

// P11.1: `.` and `..` are no names, at no place.
func TestPoints(t *testing.T) {
	for _, one := range []string{".", ".."} {
		for _, s := range []string{"/" + one, "/a/" + one, "/" + one + "/a", "/a/" + one + "/b", "/a/b/c/" + one} {
			wantRefused(t, s, api.ErrPathForm)
		}
		for _, names := range [][]string{{one}, {"a", one}, {one, "a"}, {"a", "b", "c", one}} {
			wantPrint(t, names, "", api.ErrPathForm)
		}
	}
}

// P11.1: bytes that are no rune, at each place of a name and at each name.
func TestStrays(t *testing.T) {
	for _, stray := range []string{"\xff", "\x80", "\xc3", "\xe2\x82", "\xf0\x9f\x98", "\xc0\xaf", "\xed\xa0\x80", "\xf4\x90\x80\x80", "\xe0\x80\xaf"} {
		for _, one := range []string{stray, "a" + stray, stray + "a", "a" + stray + "é"} {
			for _, s := range []string{"/" + one, "/" + one + "/a", "/a/" + one, "/a/" + one + "/b"} {
				wantRefused(t, s, api.ErrPathForm)
			}
			wantPrint(t, []string{one}, "", api.ErrPathForm)
			wantPrint(t, []string{"a", one}, "", api.ErrPathForm)
		}
	}
}

// P11.1: a stroke behind the beginning of a rune cuts as any other: the first piece is what may not be.
func TestStrokeBehindStray(t *testing.T) {
	wantRefused(t, "/\xe2/123456789012", api.ErrPathForm)
	wantRefused(t, "/123456789012\xe2/a", api.ErrPathLong)
	wantRefused(t, "/12345678901\xe2/a", api.ErrPathForm)
	wantRefused(t, "/a\xc3/b", api.ErrPathForm)
}

// P11.1: signs to a machine.
func TestSigns(t *testing.T) {
	for r := range rune(128) {
		want := api.OK
		if r < 32 || r == 127 {
			want = api.ErrPathForm
		}
		if r == '/' {
			continue
		}
		one := "a" + string(r)
		if want == api.OK {
			wantBoth(t, "/"+one+"/b", one, "b")
			continue
		}
		wantRefused(t, "/"+one+"/b", want)
		wantPrint(t, []string{one, "b"}, "", want)
	}
}

// P11.1: names with a stroke in them are none, though the text would be a path.
func TestPrintOfStrokes(t *testing.T) {
	for _, one := range []string{"/", "//", "/a", "a/", "a/b", "é/é", "./a"} {
		wantPrint(t, []string{one}, "", api.ErrPathForm)
		wantPrint(t, []string{"a", one}, "", api.ErrPathForm)
		wantPrint(t, []string{one, "a"}, "", api.ErrPathForm)
	}
}

// R6: too many bytes come ahead of all else; a missing stroke ahead of what the names are.
func TestWhichErrorOfTexts(t *testing.T) {
	long := strings.Repeat("x", 65)
	for _, s := range []string{long, "/" + long, strings.Repeat("/", 65), strings.Repeat("\xff", 65), "/./" + long, strings.Repeat("/b", 33)} {
		wantRefused(t, s, api.ErrPathLong)
	}
	for _, s := range []string{"a/1234567890123", "1234567890123", "a/b/c/d/e/f", "a//", "\xff"} {
		wantRefused(t, s, api.ErrPathForm)
	}
}

// P11.1: names are checked one by one, so the first that may not be tells the error; depth comes behind them all.
func TestWhichErrorOfNames(t *testing.T) {
	wantRefused(t, "/./1234567890123", api.ErrPathForm)
	wantRefused(t, "/1234567890123/.", api.ErrPathLong)
	wantRefused(t, "/1234567890123/", api.ErrPathLong)
	wantRefused(t, "//1234567890123", api.ErrPathForm)
	wantRefused(t, "/a/1234567890123/\xff", api.ErrPathLong)
	wantRefused(t, "/a/\xff/1234567890123", api.ErrPathForm)
	wantRefused(t, "/1234567890\xff23", api.ErrPathLong) // one name: its length ahead of its runes
	wantRefused(t, "/a/b/c/d/", api.ErrPathForm)
	wantRefused(t, "/a/b/c/d/e/", api.ErrPathForm)
	wantRefused(t, "/a/b/c/d/e/f/..", api.ErrPathForm)
	wantRefused(t, "/a/b/c/d/1234567890123", api.ErrPathLong)
	wantRefused(t, "/a/b/c/d/e/1234567890123/.", api.ErrPathLong)
	wantRefused(t, "/a/b/c/d/e/./1234567890123", api.ErrPathForm)
}

// R6: Print asks each name ahead of how many they are, and how many ahead of how long the text is.
func TestWhichErrorOfPrint(t *testing.T) {
	wantPrint(t, []string{"a", "b", "c", "d", "/"}, "", api.ErrPathForm)
	wantPrint(t, []string{"a", "b", "c", "d", "e", "f", ""}, "", api.ErrPathForm)
	wantPrint(t, []string{"", "b", "c", "d", "e"}, "", api.ErrPathForm)
	wantPrint(t, []string{"a", "b", "c", "d", "1234567890123"}, "", api.ErrPathForm)
	wantPrint(t, slices.Repeat([]string{"123456789012"}, 5), "", api.ErrPathDeep)
	wantPrint(t, slices.Repeat([]string{"123456789012"}, 100), "", api.ErrPathDeep)
	wantPrint(t, []string{strings.Repeat("x", 100)}, "", api.ErrPathForm)
}

// R1: texts and lists of any size end.
func TestGreatInputs(t *testing.T) {
	great := strings.Repeat("/a", 1<<22)
	wantRefused(t, great, api.ErrPathLong)
	wantBelow(t, "/a", great, false)
	wantBelow(t, great, "/a", false)
	wantPrint(t, []string{great}, "", api.ErrPathForm)
	wantPrint(t, slices.Repeat([]string{"a"}, 1<<20), "", api.ErrPathDeep)
	wantPrint(t, append(slices.Repeat([]string{"a"}, 1<<20), "."), "", api.ErrPathForm)
}

// R4: Print changes neither the names nor the room behind them.
func TestNamesAreNotChanged(t *testing.T) {
	for _, names := range [][]string{{"a", "b"}, {"é"}, {"a", "/"}, {"a", "b", "c", "d", "e"}, {}} {
		room := append(slices.Clone(names), "spare", "spare")
		path.Print(room[:len(names)])
		if !slices.Equal(room, append(slices.Clone(names), "spare", "spare")) {
			t.Errorf("%q became %q", names, room)
		}
	}
}

// R4: what one Parse answered may be changed, and grown, and no other answer tells it.
func TestAnswersShareNothing(t *testing.T) {
	for _, s := range []string{"/a", "/a/b", "/a/b/c", "/a/b/c/d"} {
		one, _ := path.Parse(s)
		two, _ := path.Parse(s)
		for at := range one {
			one[at] = "changed"
		}
		_ = append(one, "more")
		_ = append(one[:0], "first")
		want := strings.Split(s[1:], "/")
		if !slices.Equal(two, want) {
			t.Errorf("Parse(%q) answered %q, which became %q", s, want, two)
		}
		wantParse(t, s, want, api.OK)
	}
}

// R4: a list that Print was handed may be changed behind it; its text stays.
func TestTextsStay(t *testing.T) {
	names := []string{"a", "b"}
	text, _ := path.Print(names)
	names[0] = "x"
	if text != "/a/b" {
		t.Errorf("the text became %q", text)
	}
	wantPrint(t, names, "/x/b", api.OK)
}
