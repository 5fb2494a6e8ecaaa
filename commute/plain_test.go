package commute_test

import (
	"fmt"
	"slices"
	"strings"
	"testing"

	"concourse/api"
	"concourse/commute"
	"concourse/model"
	"concourse/name"
	"concourse/path"
	"concourse/shape"
)

// This file is what chapter 24 says, put down plainly: word by word, with no thought of how long it takes.

// showResult is a result as a text; no names and nil are one.
func showResult(r api.Result) string {
	return fmt.Sprintf("code %d, fd %d, num %d, dir %t, data %q, names %q", r.Code, r.Fd, r.Num, r.Dir, r.Data, r.Names)
}

// inodeOf gives an inode, or the zero one, if it is not there.
func inodeOf(s api.State, num int) api.Inode {
	for _, x := range s.Inodes {
		if x.Num == num {
			return x
		}
	}
	return api.Inode{}
}

// isThere tells whether a call's Kind and its Core are.
func isThere(s api.State, c api.Call) bool {
	return 0 <= c.Kind && c.Kind <= 16 && 0 <= c.Core && c.Core < len(s.Made)
}

// plainCommute is P24.1.
func plainCommute(s api.State, a, b api.Call) bool {
	if !model.May(s) || !isThere(s, a) || !isThere(s, b) || a.Core == b.Core {
		return false
	}
	behindA, a1 := model.Do(s, a)
	one, b1 := model.Do(behindA, b)
	behindB, b2 := model.Do(s, b)
	two, a2 := model.Do(behindB, a)
	return showResult(a1) == showResult(a2) && showResult(b1) == showResult(b2) && shape.Same(one, two)
}

// pathsOf gives the paths that a call has.
func pathsOf(c api.Call) []string {
	switch c.Kind {
	case api.CallCreate, api.CallMkdir, api.CallOpen, api.CallUnlink, api.CallRmdir, api.CallList, api.CallStat, api.CallLinks:
		return []string{c.Path}
	case api.CallLink, api.CallRename:
		return []string{c.Path, c.Path2}
	}
	return nil
}

// begun gives the path of so many of the first names.
func begun(names []string, count int) string {
	return "/" + strings.Join(names[:count], "/")
}

// pair is a directory and one of its buckets, as a text.
func pair(dir, bucket int) string {
	return fmt.Sprintf("bucket %d of %d", bucket, dir)
}

// looksOf are the pairs that a call looks at.
func looksOf(s api.State, c api.Call) []string {
	var all []string
	for _, p := range pathsOf(c) {
		names, _ := path.Parse(p) // of what is no path there are none
		for at := range names {
			if num, code := model.Find(s, begun(names, at)); code == api.CodeOK && inodeOf(s, num).Dir {
				all = append(all, pair(num, name.Bucket(names[at])))
			}
		}
	}
	if c.Kind == api.CallList || c.Kind == api.CallRmdir {
		if num, code := model.Find(s, c.Path); code == api.CodeOK && inodeOf(s, num).Dir {
			for bucket := range 8 {
				all = append(all, pair(num, bucket))
			}
		}
	}
	return all
}

// turnsOf are the pairs that a call turns.
func turnsOf(s api.State, c api.Call) []string {
	if !isOK(s, c) {
		return nil
	}
	last := func(p string) string {
		names, _ := path.Parse(p)
		parent, _ := model.Find(s, begun(names, len(names)-1))
		return pair(parent, name.Bucket(names[len(names)-1]))
	}
	switch c.Kind {
	case api.CallCreate, api.CallMkdir, api.CallUnlink, api.CallRmdir:
		return []string{last(c.Path)}
	case api.CallLink:
		return []string{last(c.Path2)}
	case api.CallRename:
		return []string{last(c.Path), last(c.Path2)}
	}
	return nil
}

// isOK tells whether Do answers CodeOK.
func isOK(s api.State, c api.Call) bool {
	_, r := model.Do(s, c)
	return r.Code == api.CodeOK
}

// openedOf gives the number that a call's descriptor is for, or 0.
func openedOf(s api.State, c api.Call) int {
	if c.Kind < api.CallClose || c.Kind > api.CallSize {
		return 0
	}
	for _, d := range s.Open {
		if d.Core == c.Core && d.Fd == c.Fd {
			return d.Num
		}
	}
	return 0
}

// bytesOf gives the inode whose bytes a call has, or 0.
func bytesOf(s api.State, c api.Call) int {
	if c.Kind == api.CallStat {
		if num, code := model.Find(s, c.Path); code == api.CodeOK && !inodeOf(s, num).Dir {
			return num
		}
	}
	return openedOf(s, c)
}

// pagesOf are the pages of the bytes of a Read or a Write that answers CodeOK.
func pagesOf(s api.State, c api.Call) []int {
	_, r := model.Do(s, c)
	count := 0
	if c.Kind == api.CallRead {
		count = len(r.Data)
	}
	if c.Kind == api.CallWrite && r.Code == api.CodeOK {
		count = len(c.Data)
	}
	var all []int
	for at := range count {
		all = append(all, (c.Off+at)/16)
	}
	return all
}

// meetInPairs is P24.2's first point, broken by what a turns.
func meetInPairs(s api.State, a, b api.Call) bool {
	others := append(looksOf(s, b), turnsOf(s, b)...)
	return slices.ContainsFunc(turnsOf(s, a), func(at string) bool { return slices.Contains(others, at) })
}

// meetInBytes is its second point, broken by what a does.
func meetInBytes(s api.State, a, b api.Call) bool {
	num := bytesOf(s, a)
	if num == 0 || num != bytesOf(s, b) {
		return false
	}
	if a.Kind == api.CallTruncate {
		return true
	}
	if a.Kind != api.CallWrite || !isOK(s, a) {
		return false
	}
	behind, _ := model.Do(s, a)
	if len(inodeOf(behind, num).Data) > len(inodeOf(s, num).Data) {
		return true
	}
	others := pagesOf(s, b)
	return slices.ContainsFunc(pagesOf(s, a), func(page int) bool { return slices.Contains(others, page) })
}

// meetInCounts is its third point, broken by what a turns.
func meetInCounts(s api.State, a, b api.Call) bool {
	behind, r := model.Do(s, a)
	if r.Code != api.CodeOK || !slices.Contains([]int{api.CallLink, api.CallUnlink, api.CallRmdir, api.CallMkdir, api.CallCreate}, a.Kind) {
		return false
	}
	for num := range 300 {
		if model.Links(s, num) == model.Links(behind, num) {
			continue
		}
		if found, code := model.Find(s, b.Path); b.Kind == api.CallLinks && code == api.CodeOK && found == num {
			return true
		}
		if a.Kind != api.CallUnlink && a.Kind != api.CallRmdir || model.Links(behind, num) > 0 {
			continue
		}
		if openedOf(s, b) == num || slices.Contains(alongOf(s, b), num) {
			return true
		}
	}
	return false
}

// alongOf are the inodes that a call's paths find or go through.
func alongOf(s api.State, c api.Call) []int {
	var all []int
	for _, p := range pathsOf(c) {
		names, e := path.Parse(p)
		for count := 0; e == api.OK && count <= len(names); count++ {
			if num, code := model.Find(s, begun(names, count)); code == api.CodeOK {
				all = append(all, num)
			}
		}
	}
	return all
}

// plainPoints tells which of P24.2's points two calls break, such as 13; of calls that it does not ask about it tells -.
func plainPoints(s api.State, a, b api.Call) string {
	if !model.May(s) || !isThere(s, a) || !isThere(s, b) || a.Core == b.Core || max(a.Kind, b.Kind) >= api.CallFsync {
		return "-"
	}
	points := ""
	for at, meet := range []func(s api.State, a, b api.Call) bool{meetInPairs, meetInBytes, meetInCounts} {
		if meet(s, a, b) || meet(s, b, a) {
			points += fmt.Sprint(1 + at)
		}
	}
	return points
}

// wantPlain fails unless Commute and Apart, either way round, answer what the plain words do. It tells both.
func wantPlain(t *testing.T, s api.State, a, b api.Call) (bool, bool) {
	t.Helper()
	commutes, points := plainCommute(s, a, b), plainPoints(s, a, b)
	for _, two := range [][2]api.Call{{a, b}, {b, a}} {
		if got := commute.Commute(s, two[0], two[1]); got != commutes {
			t.Errorf("Commute: %t: %+v, %+v, at\n%s", got, two[0], two[1], show(s))
		}
		if got := commute.Apart(s, two[0], two[1]); got != (points == "") {
			t.Errorf("Apart: %t, want %q: %+v, %+v, at\n%s", got, points, two[0], two[1], show(s))
		}
	}
	return commutes, points == ""
}

// wantPoints fails unless two calls, each of either core, break these points and no other, so that Apart is false just
// if there is one.
func wantPoints(t *testing.T, s api.State, a, b api.Call, points string) {
	t.Helper()
	for _, two := range [][2]api.Call{{a, by(1, b)}, {by(1, a), b}} {
		if got := plainPoints(s, two[0], two[1]); got != points {
			t.Errorf("points %q, want %q: %+v, %+v", got, points, two[0], two[1])
		}
		wantPlain(t, s, two[0], two[1])
	}
}

// wantCommute fails unless two calls, each of either core, commute, or do not.
func wantCommute(t *testing.T, s api.State, a, b api.Call, want bool) {
	t.Helper()
	for _, two := range [][2]api.Call{{a, by(1, b)}, {by(1, a), b}} {
		if got, _ := wantPlain(t, s, two[0], two[1]); got != want {
			t.Errorf("commute %t: %+v, %+v, at\n%s", got, two[0], two[1], show(s))
		}
	}
}
