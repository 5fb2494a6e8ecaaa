package path_test

import (
	"strings"
	"testing"

	"concourse/path"
)

// P11.2: a path and one that goes on from it, by one name to as many as there may be.
func TestGoingOn(t *testing.T) {
	wantBelow(t, "/a", "/a/b", true)
	wantBelow(t, "/a", "/a/b/c", true)
	wantBelow(t, "/a", "/a/b/c/d", true)
	wantBelow(t, "/a/b", "/a/b/c/d", true)
	wantBelow(t, "/a/b/c", "/a/b/c/d", true)
	wantBelow(t, "/a", "/a/a", true)
	wantBelow(t, "/a/a", "/a/a/a", true)
	wantBelow(t, "/日本/é", "/日本/é/語", true)
	wantBelow(t, "/123456789012", "/123456789012/123456789012", true)
}

// P11.2: the other way round it is not, nor is a path below itself.
func TestNotGoingOn(t *testing.T) {
	paths := []string{"/", "/a", "/a/b", "/a/b/c", "/a/b/c/d"}
	for i, a := range paths {
		for j, b := range paths {
			wantBelow(t, a, b, i < j)
		}
	}
	wantBelow(t, "/é", "/é", false)
	wantBelow(t, "/123456789012", "/123456789012", false)
}

// P11.2: names go as wholes: such as begin alike are others.
func TestNamesThatBeginAlike(t *testing.T) {
	wantBelow(t, "/a", "/ab", false)
	wantBelow(t, "/a", "/ab/c", false)
	wantBelow(t, "/ab", "/a", false)
	wantBelow(t, "/ab", "/a/b", false)
	wantBelow(t, "/a", "/b/a", false)
	wantBelow(t, "/b", "/a/b", false)
	wantBelow(t, "/a/b", "/a/bc/d", false)
	wantBelow(t, "/a/b", "/ab/c", false)
	wantBelow(t, "/x/b", "/a/b/c", false)
	wantBelow(t, "/a/x", "/a/b/c", false)
	wantBelow(t, "/a/b/x", "/a/b/c/d", false)
	wantBelow(t, "/a", "/A/b", false)
	wantBelow(t, "/é", "/e\u0301/b", false) // one letter, unlike runes
	wantBelow(t, "/a", "/a /b", false)
	wantBelow(t, "/a", "/a\u2044b/c", false)
}

// P11.2: `/` and any path: all but itself are below it.
func TestBelowRoot(t *testing.T) {
	wantBelow(t, "/", "/", false)
	for _, s := range []string{"/a", "/a/b", "/a/b/c/d", "/é", "/ ", "/..."} {
		wantBelow(t, "/", s, true)
		wantBelow(t, s, "/", false)
	}
}

// noPaths are texts that Parse refuses, one for each reason at least.
func noPaths() []string {
	return []string{
		"", "a", "a/b", " /a", "//", "//a", "/a//b", "/a/", "/a/b/", "/.", "/..", "/a/.", "/a/../b", "/a/\xff", "/\x00", "/a/\x7f",
		"/1234567890123", "/a/1234567890123", "/a/b/c/d/e", strings.Repeat("/a", 33), "\xff/a",
	}
}

// P11.2: where one of two texts is no path, or both are none, it is false.
func TestBelowOfNoPaths(t *testing.T) {
	for _, s := range noPaths() {
		for _, one := range []string{"/", "/a", "/a/b", "/a/b/c/d"} {
			wantBelow(t, one, s, false)
			wantBelow(t, s, one, false)
			wantBelow(t, s, s+one, false)
		}
		for _, other := range noPaths() {
			wantBelow(t, s, other, false)
			wantBelow(t, s, s+other, false)
		}
		wantBelow(t, s, s, false)
	}
	wantBelow(t, "", "/a", false)           // no names, but no path
	wantBelow(t, "a", "/a/b", false)        // a's names would fit
	wantBelow(t, "/a/", "/a/b", false)      // so would these
	wantBelow(t, "/a", "/a/b/", false)      // and b's
	wantBelow(t, "/a", "/a/b/c/d/e", false) // too deep
	wantBelow(t, "/a/b/c/d", "/a/b/c/d/e", false)
	wantBelow(t, "/a", "/a/1234567890123", false)
	wantBelow(t, "/a", "/a/.", false)
}

// P11.2: all pairs of paths of few names, held against the plain one.
func TestPairs(t *testing.T) {
	var all []string
	for _, one := range []string{"", "/", "/a", "/b", "/ab", "/é", "/a/", "a"} {
		for _, two := range []string{"", "/a", "/b", "/ab", "//", "/."} {
			for _, three := range []string{"", "/a", "/b/a", "/a/b/c"} {
				all = append(all, one+two+three)
			}
		}
	}
	yes := 0
	for _, a := range all {
		for _, b := range all {
			wantBelow(t, a, b, plainBelow(a, b))
			if path.Below(a, b) {
				yes++
			}
		}
	}
	if yes < 100 {
		t.Errorf("%d of %d pairs are below", yes, len(all)*len(all))
	}
}
