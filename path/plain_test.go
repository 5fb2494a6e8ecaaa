package path_test

import (
	"slices"
	"strings"
	"testing"
	"unicode/utf8"

	"concourse/api"
	"concourse/path"
)

// row is a row of numbers that is the same in each run.
type row uint64

func (r *row) below(n int) int {
	*r = *r*6364136223846793005 + 1442695040888963407
	return int(uint64(*r) >> 33 % uint64(n))
}

// plainName is what layer 8 says of a name, as a path's error.
func plainName(s string) api.Errno {
	if len(s) > 12 {
		return api.ErrPathLong
	}
	if s == "" || s == "." || s == ".." || strings.Contains(s, "/") || !utf8.ValidString(s) {
		return api.ErrPathForm
	}
	for at := range len(s) {
		if s[at] < 32 || s[at] == 127 {
			return api.ErrPathForm
		}
	}
	return api.OK
}

// plainParse is P11.1's Parse, word by word.
func plainParse(s string) ([]string, api.Errno) {
	if len(s) > 64 {
		return nil, api.ErrPathLong
	}
	if !strings.HasPrefix(s, "/") {
		return nil, api.ErrPathForm
	}
	if s == "/" {
		return nil, api.OK
	}
	names := strings.Split(s[1:], "/")
	for _, one := range names {
		if e := plainName(one); e != api.OK {
			return nil, e
		}
	}
	if len(names) > 4 {
		return nil, api.ErrPathDeep
	}
	return names, api.OK
}

// plainPrint is P11.1's Print, word by word. (Four names of 12 bytes make 52: none is too long.)
func plainPrint(names []string) (string, api.Errno) {
	for _, one := range names {
		if plainName(one) != api.OK {
			return "", api.ErrPathForm
		}
	}
	if len(names) > 4 {
		return "", api.ErrPathDeep
	}
	if len(names) == 0 {
		return "/", api.OK
	}
	return "/" + strings.Join(names, "/"), api.OK
}

// plainBelow is P11.2 by the texts of two paths alone.
func plainBelow(a, b string) bool {
	_, one := plainParse(a)
	_, two := plainParse(b)
	if one != api.OK || two != api.OK || b == "/" {
		return false
	}
	return a == "/" || strings.HasPrefix(b, a+"/")
}

// wantParse fails unless Parse answers these names, or this error and nothing beside it.
func wantParse(t *testing.T, s string, names []string, want api.Errno) {
	t.Helper()
	got, e := path.Parse(s)
	if e != want || !slices.Equal(got, names) {
		t.Errorf("Parse(%.80q): %q, %d, want %q, %d", s, got, e, names, want)
	}
}

// wantRefused fails unless Parse answers this error and nothing beside it.
func wantRefused(t *testing.T, s string, want api.Errno) {
	t.Helper()
	wantParse(t, s, nil, want)
}

// wantPrint fails unless Print answers this text and this error.
func wantPrint(t *testing.T, names []string, text string, want api.Errno) {
	t.Helper()
	got, e := path.Print(names)
	if e != want || got != text {
		t.Errorf("Print(%.80q): %q, %d, want %q, %d", names, got, e, text, want)
	}
}

// wantBoth fails unless a text and its names are told of each other.
func wantBoth(t *testing.T, s string, names ...string) {
	t.Helper()
	wantParse(t, s, names, api.OK)
	wantPrint(t, names, s, api.OK)
}

// wantBelow fails unless Below answers this.
func wantBelow(t *testing.T, a, b string, want bool) {
	t.Helper()
	if got := path.Below(a, b); got != want {
		t.Errorf("Below(%.80q, %.80q): %t, want %t", a, b, got, want)
	}
}

// wantPlain fails unless Parse and Print answer of a text and of its pieces what the plain ones say.
func wantPlain(t *testing.T, s string) {
	t.Helper()
	names, e := plainParse(s)
	wantParse(t, s, names, e)
	pieces := strings.Split(s, "/")
	text, e := plainPrint(pieces)
	wantPrint(t, pieces, text, e)
	text, e = plainPrint(pieces[1:])
	wantPrint(t, pieces[1:], text, e)
}
