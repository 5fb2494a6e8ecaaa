package path_test

import (
	"slices"
	"strings"
	"sync"
	"testing"

	"concourse/api"
	"concourse/path"
)

// pieces are what texts are put together of.
func pieces() []string {
	return []string{
		"/", "/", "/", "/", "/", "/a", "/b", "a", "Zz", "09", " ", ".", "..", "", "\x00", "\x1f", "\x7f", "~", "\xff", "\xc3", "\xe2\x82",
		"é", "語", "\U0001F600", "\ufffd", "12345678901", "123456789012", "1234567890123",
	}
}

// P11.1: texts of any pieces, held against the plain ones.
func TestTextsOfPieces(t *testing.T) {
	all := pieces()
	for _, one := range all {
		for _, two := range all {
			for _, three := range all {
				wantPlain(t, one+two+three)
				wantPlain(t, "/"+one+"/"+two+"/"+three)
			}
		}
	}
}

// P11.1: each text of few signs, up to seven of them.
func TestEachShortText(t *testing.T) {
	var grow func(text string, left int)
	grow = func(text string, left int) {
		wantPlain(t, text)
		if left == 0 {
			return
		}
		for _, next := range []string{"/", "a", ".", "\xff"} {
			grow(text+next, left-1)
		}
	}
	grow("", 7)
}

// P11.1: texts in rows, with every error and every depth among them.
func TestRowsOfTexts(t *testing.T) {
	r := row(11)
	all := pieces()
	seen := map[api.Errno]int{}
	depths := map[int]int{}
	for range 30000 {
		text := "/"
		for range r.below(12) {
			text += all[r.below(len(all))]
		}
		wantPlain(t, text)
		names, e := path.Parse(text)
		seen[e]++
		if e == api.OK {
			depths[len(names)]++
		}
	}
	for _, e := range []api.Errno{api.OK, api.ErrPathForm, api.ErrPathLong, api.ErrPathDeep} {
		if seen[e] == 0 {
			t.Errorf("no text's answer is %d: %v", e, seen)
		}
	}
	for depth := range api.MaxDepth + 1 {
		if depths[depth] == 0 {
			t.Errorf("no path of %d names: %v", depth, depths)
		}
	}
}

// somePath makes names of any runes, and their path's text.
func somePath(r *row) ([]string, string) {
	runes := []string{"a", "b", " ", ".x", "~", "\u0080", "é", "\u0800", "語", "\U00010000", "\U0001F600"}
	var names []string
	text := ""
	for range r.below(api.MaxDepth + 1) {
		one := "n"
		for next := runes[r.below(len(runes))]; len(one)+len(next) <= api.MaxName && r.below(4) > 0; next = runes[r.below(len(runes))] {
			one += next
		}
		names = append(names, one)
		text += "/" + one
	}
	if text == "" {
		text = "/"
	}
	return names, text
}

// P11.1: there and back of any path.
func TestThereAndBack(t *testing.T) {
	r := row(111)
	for range 20000 {
		names, text := somePath(&r)
		wantBoth(t, text, names...)
	}
}

// P11.2: any path is below each beginning of it and no other; held against the plain one.
func TestBelowInRows(t *testing.T) {
	r := row(112)
	for range 5000 {
		names, text := somePath(&r)
		for depth := range len(names) + 1 {
			ahead, e := path.Print(names[:depth])
			if e != api.OK {
				t.Fatalf("Print(%q): %d", names[:depth], e)
			}
			wantBelow(t, ahead, text, depth < len(names))
			wantBelow(t, text, ahead, false)
		}
		_, other := somePath(&r)
		wantBelow(t, text, other, plainBelow(text, other))
	}
}

// P11.1: a text and all of its beginnings, byte by byte, so that runes are cut through.
func TestBeginnings(t *testing.T) {
	for _, s := range []string{"/日本/é/\U0001F600/x", "/a//b/", "/123456789012/123456789012/12/12/12345678901234567890", strings.Repeat("é/", 22)} {
		for at := range len(s) + 1 {
			wantPlain(t, s[:at])
			wantPlain(t, s[at:])
		}
	}
}

// R5: several goroutines may call at one time, and the same is answered each time.
func TestCallsAtOneTime(t *testing.T) {
	var group sync.WaitGroup
	names := []string{"a", "日本"}
	for range 8 {
		group.Add(1)
		go func() {
			defer group.Done()
			for range 500 {
				got, e := path.Parse("/a/日本")
				text, e2 := path.Print(names)
				if !slices.Equal(got, names) || text != "/a/日本" || e != api.OK || e2 != api.OK || !path.Below("/a", text) {
					t.Errorf("%q, %d, %q, %d", got, e, text, e2)
				}
			}
		}()
	}
	group.Wait()
}
