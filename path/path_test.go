package path_test

import (
	"strings"
	"testing"

	"concourse/api"
	"concourse/path"
)

// P11.1: paths of one name to MaxDepth names, there and back.
func TestOrdinaryPaths(t *testing.T) {
	wantBoth(t, "/a", "a")
	wantBoth(t, "/a/b", "a", "b")
	wantBoth(t, "/a/b/c", "a", "b", "c")
	wantBoth(t, "/a/b/c/d", "a", "b", "c", "d")
	wantBoth(t, "/notes/2026/nov.txt", "notes", "2026", "nov.txt")
	wantBoth(t, "/same/same/same/same", "same", "same", "same", "same")
	wantBoth(t, "/b/a", "b", "a")
	wantBoth(t, "/ / a/b /  ", " ", " a", "b ", "  ")
	wantBoth(t, "/.../.a/..a/a..", "...", ".a", "..a", "a..")
	wantBoth(t, "/\\/~/*/?", "\\", "~", "*", "?")
}

// P11.1: names of runes of one to four bytes, at the beginning, within and at the end.
func TestPathsOfManyRunes(t *testing.T) {
	wantBoth(t, "/é", "é")
	wantBoth(t, "/a/b c/é", "a", "b c", "é")
	wantBoth(t, "/日本/語", "日本", "語")
	wantBoth(t, "/\U0001F600/é/€/x", "\U0001F600", "é", "€", "x")
	wantBoth(t, "/x\u0080y/\u07ff\u0800/\uffff\U00010000/\U0010FFFF", "x\u0080y", "\u07ff\u0800", "\uffff\U00010000", "\U0010FFFF")
	wantBoth(t, "/\ufffd/a\ufffd", "\ufffd", "a\ufffd") // that rune itself is one
}

// P11.1: runes that look like a stroke, or have its low bits, cut nothing.
func TestRunesLikeStrokes(t *testing.T) {
	for _, one := range []string{"a\u2044b", "a\u2215b", "a\uff0fb", "a\u012fb", "\u2f2f", "\U0001002f", "a\\b"} {
		wantBoth(t, "/"+one, one)
		wantBoth(t, "/"+one+"/"+one, one, one)
		wantRefused(t, one+"/a", api.ErrPathForm)
	}
}

// P11.1: `/` alone has no names, and no names are `/`; a nil list and an empty one are one.
func TestRoot(t *testing.T) {
	wantBoth(t, "/")
	wantPrint(t, nil, "/", api.OK)
	wantPrint(t, []string{}, "/", api.OK)
	wantPrint(t, []string{"a", "b"}[:0], "/", api.OK)
}

// P11.1: a name of MaxName bytes and one more, at each place, by bytes and not by runes.
func TestLengthsOfNames(t *testing.T) {
	for _, piece := range []string{"x", "é", "語", "\U0001F600", "."} {
		whole := strings.Repeat(piece, api.MaxName/len(piece))
		if len(whole) != api.MaxName {
			t.Fatalf("%q has %d bytes", whole, len(whole))
		}
		wantBoth(t, "/"+whole, whole)
		wantBoth(t, "/a/"+whole+"/b", "a", whole, "b")
		wantBoth(t, "/"+whole+"/"+whole+"/"+whole+"/"+whole, whole, whole, whole, whole)
		for _, s := range []string{whole + "x", "x" + whole, whole + piece} {
			wantRefused(t, "/"+s, api.ErrPathLong)
			wantRefused(t, "/"+s+"/a", api.ErrPathLong)
			wantRefused(t, "/a/"+s, api.ErrPathLong)
			wantRefused(t, "/a/b/c/"+s, api.ErrPathLong)
			wantPrint(t, []string{s}, "", api.ErrPathForm)
			wantPrint(t, []string{"a", s}, "", api.ErrPathForm)
		}
	}
}

// P11.1: MaxDepth names and one more.
func TestDepths(t *testing.T) {
	var names []string
	text := ""
	for depth := 1; depth <= 32; depth++ {
		names = append(names, "n")
		text += "/n"
		if depth <= api.MaxDepth {
			wantBoth(t, text, names...)
			continue
		}
		wantRefused(t, text, api.ErrPathDeep)
		wantPrint(t, names, "", api.ErrPathDeep)
	}
	wantRefused(t, "/a/b/c/d/e", api.ErrPathDeep)
	wantPrint(t, []string{"a", "b", "c", "d", "e"}, "", api.ErrPathDeep)
}

// P11.1: MaxPath bytes are taken name by name; one more is too long, whatever they are.
func TestLengthsOfPaths(t *testing.T) {
	full := strings.Repeat("/a", 32)
	wide := "/123456789012/123456789012/123456789012/123456789012/1234567890a"
	runes := "/日本語の/日本語の/日本語の/日本語の/日本語aa"
	for _, s := range []string{full, wide, runes} {
		if len(s) != api.MaxPath {
			t.Fatalf("%q has %d bytes", s, len(s))
		}
		wantRefused(t, s, api.ErrPathDeep)
		wantRefused(t, s[:len(s)-1]+"/", api.ErrPathForm)
		wantRefused(t, "a"+s[1:], api.ErrPathForm)
		for _, more := range []string{s + "b", s + "/", "/" + s, "x" + s, s + "\xff", s + "\x00"} {
			wantRefused(t, more, api.ErrPathLong)
		}
	}
	// Fewer runes than MaxPath do not help, where there are more bytes.
	wantRefused(t, strings.Repeat("é", 33), api.ErrPathLong)
	wantRefused(t, strings.Repeat("é", 32), api.ErrPathForm)
	wantRefused(t, strings.Repeat("/", 65), api.ErrPathLong)
	wantRefused(t, strings.Repeat("/", 64), api.ErrPathForm)
	wantRefused(t, strings.Repeat("a", 65), api.ErrPathLong)
	wantRefused(t, strings.Repeat("a", 64), api.ErrPathForm)
}

// P11.1: the longest path that may be has MaxDepth names of MaxName bytes, and less than MaxPath.
func TestLongestPath(t *testing.T) {
	names := []string{"123456789012", "日本語の", "éééééé", "\U0001F600\U0001F600\U0001F600"}
	text, e := path.Print(names)
	if e != api.OK || len(text) != 52 {
		t.Errorf("Print: %q (%d bytes), %d", text, len(text), e)
	}
	wantBoth(t, text, names...)
}

// P11.1: the code of each error of this layer and of those around it.
func TestCodes(t *testing.T) {
	for _, c := range []struct {
		e    api.Errno
		want int
	}{
		{api.OK, api.CodeOK},
		{api.ErrPathForm, api.EINVAL},
		{api.ErrPathLong, api.ENAMETOOLONG},
		{api.ErrPathDeep, api.ENAMETOOLONG},
		{api.ErrNil, api.EINVAL},
		{api.ErrNameForm, api.EINVAL},
		{api.ErrNameLong, api.EINVAL},
		{api.ErrDirNone, api.EINVAL},
		{api.ErrDirExist, api.EINVAL},
		{api.ErrInumFull, api.EINVAL},
		{api.ErrFdsFull, api.EINVAL},
		{api.ErrConsoleLong, api.EINVAL},
	} {
		if got := path.Code(c.e); got != c.want {
			t.Errorf("Code(%d): %d, want %d", c.e, got, c.want)
		}
	}
}

// P11.1: of all other numbers, such as are no error's too, it is EINVAL.
func TestCodesOfOthers(t *testing.T) {
	known := []api.Errno{api.OK, api.ErrPathLong, api.ErrPathDeep}
	others := []api.Errno{-1 << 63, 1<<63 - 1, 1 << 32, 1<<32 + 1101, -1101, -1102, 1<<16 + 1102}
	for e := api.Errno(-3000); e <= 3000; e++ {
		others = append(others, e)
	}
	for _, e := range others {
		if e == known[0] || e == known[1] || e == known[2] {
			continue
		}
		if got := path.Code(e); got != api.EINVAL {
			t.Errorf("Code(%d): %d, want %d", e, got, api.EINVAL)
		}
	}
}

// P11.1: the code of what Parse answers.
func TestCodesOfTexts(t *testing.T) {
	for s, want := range map[string]int{
		"/": api.CodeOK, "/a/b": api.CodeOK, "": api.EINVAL, "a": api.EINVAL, "/a/": api.EINVAL, "/..": api.EINVAL,
		"/1234567890123": api.ENAMETOOLONG, "/a/b/c/d/e": api.ENAMETOOLONG, strings.Repeat("/a", 33): api.ENAMETOOLONG,
	} {
		_, e := path.Parse(s)
		if got := path.Code(e); got != want {
			t.Errorf("Code of %q: %d, want %d", s, got, want)
		}
	}
}
