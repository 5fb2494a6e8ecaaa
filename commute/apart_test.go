package commute_test

import (
	"slices"
	"strings"
	"testing"

	"concourse/api"
	"concourse/model"
	"concourse/name"
)

// In these rows a, i, q, y, A, I, Q are names of one bucket, b, j, r, z of another, n, v, F, N of a third, d and l of a
// fourth, c, s, C, K of a fifth, e and m of a sixth; o is of a seventh.
func TestBucketsOfTheseRows(t *testing.T) {
	var seen []int
	for _, alike := range []string{"aiqyAIQ", "bjrz", "nvFN", "dl", "csCK", "em", "o"} {
		first := name.Bucket(alike[:1])
		for _, one := range alike {
			if name.Bucket(string(one)) != first || slices.Contains(seen, first) {
				t.Errorf("%s: %q is of bucket %d", alike, one, name.Bucket(string(one)))
			}
		}
		seen = append(seen, first)
	}
}

// wantAll fails unless each call breaks these points with each of the others, whatever these answer.
func wantAll(t *testing.T, s api.State, a api.Call, points string, others ...api.Call) {
	t.Helper()
	for _, b := range others {
		wantPoints(t, s, a, b, points)
	}
}

// P24.2: what is turned is looked at by another on its way; a bucket beside it is not.
func TestTurnedOnTheWay(t *testing.T) {
	s := aState(t, 2)
	wantAll(t, s, rename("/d", "/e/o"), "1", stat("/d/a"), opening("/d/a"), links("/d/s/c"), list("/d/s"), create("/d/s/n"), unlink("/d/a"), rmdir("/d/s"), mkdir("/d/n"), stat("/d/x/y"), create("/l"), stat("/l/a/b"))
	wantAll(t, s, rename("/d/s", "/e/o"), "1", stat("/d/s/c"), list("/d/s"), rename("/d/s/c", "/n"), rename("/b", "/d/s/b"), link("/d/s/c", "/n"), link("/a", "/d/s/n"))
	wantAll(t, s, rename("/d/s", "/e/o"), "", stat("/d/a"), stat("/d"), opening("/d/a"), create("/d/n"), unlink("/a"), rename("/b", "/d/n"), create("/s"), stat("/s/c"), rmdir("/d"+"/a"))
	wantAll(t, s, rename("/d", "/o"), "", stat("/a"), create("/n"), stat("/e/d"), create("/e/d"), list("/e"), unlink("/b"))
	wantAll(t, s, rmdir("/e"), "1", stat("/m"), stat("/m/n"), create("/m/n"), rename("/a", "/m/n"))
	wantAll(t, s, rmdir("/e"), "13", stat("/e/n"), create("/e/n"), rename("/a", "/e/a"), link("/b", "/e/b"))
	wantAll(t, s, mkdir("/n"), "1", create("/n/x"), stat("/n/x"), opening("/v/x"), list("/v"))
	wantAll(t, s, unlink("/b"), "1", stat("/j/x"), create("/j/x"), stat("/r/x/y"))
	wantAll(t, s, unlink("/b"), "13", stat("/b/x"), create("/b/x"))
	wantAll(t, s, unlink("/b"), "", stat("/d/b"), create("/d/b"), stat("/d/b/x"), rmdir("/e"), stat("/d/s/j"))
}

// P24.2: what is turned is the last name that another looks for, or of its bucket.
func TestTurnedLastName(t *testing.T) {
	s := aState(t, 2)
	looks := func(p string) []api.Call {
		return []api.Call{opening(p), stat(p), links(p), list(p), create(p), mkdir(p), unlink(p), rmdir(p), link(p, "/d/o"), rename(p, "/d/o"), link("/a", p), rename("/b", p)}
	}
	turning := []api.Call{create("/n"), mkdir("/n"), link("/d/a", "/n"), rename("/d/a", "/n")}
	for _, a := range turning {
		wantAll(t, s, a, "1", looks("/n")...)
		wantAll(t, s, a, "1", looks("/v")...)
	}
	for _, a := range turning[:2] {
		wantAll(t, s, a, "", looks("/o")...)
		wantAll(t, s, a, "", looks("/d/n")...)
	}
	wantAll(t, s, unlink("/b"), "1", opening("/j"), create("/j"), mkdir("/r"), stat("/j"), rename("/a", "/z"), rename("/j", "/n"), link("/a", "/z"), link("/j", "/n"))
	wantAll(t, s, rmdir("/e"), "1", create("/m"), stat("/m"), rename("/m", "/n"), rename("/a", "/m"))
	wantAll(t, s, unlink("/b"), "", opening("/a"), create("/o"), stat("/e"), rename("/a", "/n"), link("/a", "/o"), create("/d/j"))
	wantAll(t, s, rmdir("/e"), "", create("/n"), stat("/b"), rename("/a", "/n"), create("/d/m"))
}

// P24.2: unlike names of one bucket meet, one name in unlike directories does not.
func TestBuckets(t *testing.T) {
	s := aState(t, 2)
	alike, dirs := []string{"n", "v", "F", "N"}, []string{"/", "/d/", "/d/s/", "/e/"}
	for _, one := range alike {
		for _, other := range alike {
			for at, dir := range dirs {
				wantPoints(t, s, create(dir+one), create(dir+other), "1")
				wantPoints(t, s, create(dir+one), stat(dir+other), "1")
				for _, otherDir := range dirs[:at] {
					wantPoints(t, s, create(dir+one), mkdir(otherDir+other), "")
					wantPoints(t, s, rename("/b", dir+one), stat(otherDir+other), "")
				}
			}
		}
	}
	for place := range api.Buckets {
		one := string(rune('A' + place))
		for other := range api.Buckets {
			points := ""
			if place == other {
				points = "1"
			}
			wantPoints(t, s, create("/e/"+one), create("/e/"+string(rune('I'+other))), points)
		}
	}
}

// P24.2: List looks at all buckets of its directory, and at no other's.
func TestLists(t *testing.T) {
	s := aState(t, 2)
	for place := range api.Buckets {
		one := string(rune('I' + place))
		wantAll(t, s, list("/"), "1", create("/"+one), mkdir("/"+one), rename("/d/a", "/"+one), link("/a", "/"+one))
		wantAll(t, s, list("/d/s"), "1", create("/d/s/"+one), rename("/b", "/d/s/"+one))
		wantAll(t, s, list("/"), "", create("/d/"+one), mkdir("/d/s/"+one), rename("/d/a", "/e/"+one), stat("/"+one), list("/"), create("/x/"+one))
		wantAll(t, s, list("/e"), "", create("/d/"+one), mkdir("/d/s/"+one), rename("/d/a", "/d/"+one))
		wantAll(t, s, list("/d/s"), "", create("/d/n"), create("/e/"+one), unlink("/a"))
		wantAll(t, s, list("x"), "", create("/"+one))
	}
	wantAll(t, s, list("/"), "1", unlink("/b"), rmdir("/e"), rename("/b", "/d/b"))
	wantAll(t, s, list("/d"), "1", unlink("/d/a"), rename("/d/s", "/e/s"), create("/d/y"))
	wantAll(t, s, list("/a"), "", create("/n"), unlink("/b"), create("/d/a/x"))
	wantAll(t, s, list("/a"), "1", create("/i"), unlink("/a"))
	wantAll(t, s, list("/x"), "", create("/n"), unlink("/b"))
	wantAll(t, s, list("/a/x"), "", create("/n"), create("/x"))
}

// P24.2: Rmdir looks at all buckets of what it removes, also if there is something in it.
func TestRmdirs(t *testing.T) {
	s := aState(t, 2)
	for place := range api.Buckets {
		one := string(rune('I' + place))
		wantAll(t, s, rmdir("/e"), "13", create("/e/"+one), rename("/b", "/e/"+one), link("/a", "/e/"+one))
		wantAll(t, s, rmdir("/d"), "1", create("/d/"+one), mkdir("/d/"+one), rename("/b", "/d/"+one))
		wantAll(t, s, rmdir("/e"), "", create("/d/"+one), mkdir("/d/s/"+one), rename("/d/a", "/d/"+one), create("/n"), create("/a/"+one), list("/d"))
		wantAll(t, s, rmdir("/d"), "", create("/d/s/"+one), create("/e/"+one), list("/d"), stat("/d/"+one), list("/"))
		wantAll(t, s, rmdir("/x"), "", create("/d/"+one), create("/e/"+one))
		wantAll(t, s, rmdir("/d/s"), "", create("/e/"+one), mkdir("/e/"+one))
	}
	wantAll(t, s, rmdir("/e"), "1", list("/"), rename("/d", "/m"))
	wantAll(t, s, rmdir("/e"), "13", rmdir("/e"), rename("/e", "/n"), list("/e"))
	wantAll(t, s, rmdir("/d"), "1", unlink("/d/a"), rename("/d", "/n"), rename("/d/s", "/n"))
	wantAll(t, s, rmdir("/d"), "", unlink("/d/s/c"), rmdir("/e"), rmdir("/d"), stat("/d"))
	wantAll(t, s, rmdir("/a"), "", create("/n"), unlink("/d/a"), rmdir("/e"))
	wantAll(t, s, rmdir("/a"), "1", create("/i"), unlink("/a"))
}

// P24.2: Rename and Link look at both paths; Link turns its second path's bucket alone, Rename both.
func TestTwoPaths(t *testing.T) {
	s := aState(t, 2)
	wantAll(t, s, link("/b", "/e/n"), "1", stat("/e/v"), create("/e/v"), list("/e"), unlink("/e/v"), rename("/a", "/e/v"), create("/j"), rename("/a", "/j"))
	wantAll(t, s, link("/b", "/e/n"), "", stat("/j"), stat("/b"), opening("/b"), unlink("/j"), create("/e/o"), link("/d/s/c", "/e/o"), rename("/d/s", "/n"))
	wantAll(t, s, rename("/b", "/e/n"), "1", stat("/j"), stat("/b"), opening("/j"), create("/j"), stat("/e/v"), create("/e/v"), list("/e"), list("/"), unlink("/e/v"))
	wantAll(t, s, rename("/b", "/e/n"), "", stat("/a"), stat("/e/b"), stat("/n"), create("/n"), create("/e/o"), list("/d"), rename("/d/a", "/e/o"))
	wantAll(t, s, create("/n"), "1", rename("/v", "/d/o"), rename("/b", "/v"), link("/b", "/v"), link("/v", "/d/o"), rename("/n", "/n"), rename("/x", "/v"), link("/x", "/v"))
	wantAll(t, s, create("/n"), "", rename("/d/n", "/d/o"), rename("/b", "/d/v"), link("/b", "/d/v"), rename("/o", "/j"), rename("/", "/o"), link("/d", "/o"))
	wantAll(t, s, create("/n/x"), "1", rename("/b", "/v"), link("/b", "/n"))
	wantAll(t, s, create("/n/x"), "", rename("/b", "/o"), link("/b", "/o"), rename("/b", "/d/n"))
	wantAll(t, s, rename("/d/s", "/e/s"), "1", rename("/e", "/d/s/e"), rename("/b", "/d/s/b"), list("/e"), list("/d"))
	wantAll(t, s, rename("", "/n"), "", rename("/d/a", "/o"), stat("/n"))
	wantAll(t, s, rename("", "/n"), "1", create("/v"))
	wantAll(t, s, link("/a/x", "/n"), "1", create("/v"), create("/i"))
}

// P24.2: a walk ends at a name that is not there, and at a file; behind these nothing is looked at.
func TestWalksThatEnd(t *testing.T) {
	s := aState(t, 2)
	wantAll(t, s, stat("/n/a/b"), "1", create("/n"), create("/v"), mkdir("/n"))
	wantAll(t, s, stat("/n/a/b"), "", create("/o"), unlink("/a"), unlink("/b"), create("/d/n"), create("/q"))
	wantAll(t, s, stat("/d/n/a"), "1", create("/d/v"), rename("/b", "/d/n"), rename("/d", "/o"))
	wantAll(t, s, stat("/d/n/a"), "", create("/d/o"), unlink("/d/a"), unlink("/b"), create("/n"), create("/i"))
	wantAll(t, s, stat("/b/n/a"), "1", create("/j"), rename("/b", "/o"), rename("/a", "/r"))
	wantAll(t, s, stat("/b/n/a"), "13", unlink("/b"))
	wantAll(t, s, stat("/b/n/a"), "", create("/n"), unlink("/a"), create("/d/b"), create("/o"))
	for _, p := range []string{"", "n", "/n/", "//", "/..", "/1234567890123", "/n/n/n/n/n", "/" + strings.Repeat("n", 64)} {
		for kind := range api.CallFsync {
			wantAll(t, s, api.Call{Kind: kind, Fd: 3, Path: p, Path2: p}, "", create("/n"), unlink("/b"), rename("/d", "/o"), rmdir("/e"), list("/"))
		}
	}
	for _, c := range []api.Call{create("/"), mkdir("/"), unlink("/"), opening("/"), stat("/"), links("/"), rename("/", "/"), link("/", "/")} {
		wantAll(t, s, c, "", create("/n"), unlink("/b"), rename("/d", "/o"), rmdir("/e"), list("/"), c)
	}
}

// P24.2: a call that Do refuses turns nothing, but looks.
func TestRefusedLooks(t *testing.T) {
	s := do(t, aState(t, 2), link("/a", "/z"))
	for _, c := range []api.Call{create("/b"), mkdir("/j/n"), link("/d", "/b"), link("/j", "/n"), unlink("/j"), rmdir("/b"), rename("/j", "/n"), rename("/d", "/b"), link("/a", "/j/n"), rename("/d", "/b/x")} {
		if _, r := model.Do(s, c); r.Code == api.CodeOK {
			t.Fatalf("%+v: CodeOK", c)
		}
		wantAll(t, s, c, "1", create("/r"), unlink("/z"), rename("/b", "/e/n"), mkdir("/j"))
		wantAll(t, s, c, "", stat("/b"), opening("/r"), unlink("/r"), c, links("/j"), create("/o"), create("/d/b"))
	}
	full := do(t, s, create("/i"), create("/q"), create("/y"))
	for _, c := range []api.Call{create("/A"), mkdir("/A"), link("/b", "/A"), rename("/d/s", "/A")} {
		wantAll(t, full, c, "", stat("/a"), stat("/A"), c, create("/I"))
		wantAll(t, full, c, "1", unlink("/q"), rename("/q", "/Q"))
	}
	full.Made = []int{32, 32}
	wantAll(t, full, create("/n"), "", create("/n"), mkdir("/n"), stat("/v"), list("/"))
	wantAll(t, full, create("/n"), "1", link("/a", "/n"), rename("/b", "/v"))
}

// P24.2: the inodes that two make are nobody else's.
func TestNewInodes(t *testing.T) {
	s := aState(t, 2)
	makers := []func(p string) api.Call{create, mkdir}
	for _, one := range makers {
		for _, other := range makers {
			wantPoints(t, s, one("/n"), other("/o"), "")
			wantPoints(t, s, one("/n"), other("/e/n"), "")
			wantPoints(t, s, one("/d/s/n"), other("/d/n"), "")
			wantPoints(t, s, one("/n"), other("/n"), "1")
			wantPoints(t, s, one("/n"), other("/n/n"), "1")
		}
		wantAll(t, s, one("/n"), "", append(allCalls()[2:12], links("/a"), links("/o"), stat("/"), links("/b"))...)
		wantAll(t, s, one("/n"), "1", links("/n"), list("/n"), opening("/n"), unlink("/n"), rename("/n", "/o"), list("/"))
	}
}

// P24.2: fields that a call's kind does not take are not looked at.
func TestOtherFields(t *testing.T) {
	s := aState(t, 2)
	for _, kind := range []int{api.CallClose, api.CallRead, api.CallSize} {
		wantAll(t, s, api.Call{Kind: kind, Num: 9, Path: "/n", Path2: "/n"}, "", create("/n"), mkdir("/v"))
	}
	for _, c := range []api.Call{create("/o"), stat("/o"), list("/d"), opening("/a"), unlink("/o"), rmdir("/o"), mkdir("/d/o"), links("/o")} {
		c.Path2, c.Data = "/n", "bytes"
		wantAll(t, s, c, "", create("/n"), write(0, 0, "y"), truncate(0, 3), unlink("/b"))
	}
}
