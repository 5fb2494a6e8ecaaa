package model

import (
	"cmp"
	"slices"

	"concourse/api"
	"concourse/path"
)

// The numbers that inodes may have.
const (
	root  = 1                                    // a directory that is always there
	first = 2                                    // the least that a core is given (chapter 10)
	last  = first + api.MaxCores*api.MaxMade - 1 // the greatest
)

// numOf tells the number that a core is given behind so many.
func numOf(core, given int) int {
	return first + core + api.MaxCores*given
}

// givenAhead tells how many numbers its core was given ahead of a number.
func givenAhead(num int) int {
	return (num - first) / api.MaxCores
}

// inode gives the inode of a number where it lies in s (of several the first), or nil.
func inode(s api.State, num int) *api.Inode {
	at := slices.IndexFunc(s.Inodes, func(x api.Inode) bool { return x.Num == num })
	if at < 0 {
		return nil
	}
	return &s.Inodes[at]
}

// placeOf tells where a name stands among entries, or -1.
func placeOf(entries []api.Entry, text string) int {
	return slices.IndexFunc(entries, func(e api.Entry) bool { return e.Name == text })
}

// namesOf cuts a path into its names; what is wrong with it is told as a code.
func namesOf(p string) ([]string, int) {
	names, e := path.Parse(p)
	return names, path.Code(e)
}

// walk goes name by name from the root on. It takes any state: an inode that is not
// there is gone through as one without names.
func walk(s api.State, names []string) (int, int) {
	num := root
	for _, text := range names {
		x := inode(s, num)
		if x == nil {
			return 0, api.ENOENT
		}
		if !x.Dir {
			return 0, api.ENOTDIR
		}
		at := placeOf(x.Entries, text)
		if at < 0 {
			return 0, api.ENOENT
		}
		num = x.Entries[at].Num
	}
	return num, api.CodeOK
}

// isOpen tells whether a core has a descriptor for a number.
func isOpen(s api.State, num int) bool {
	return slices.ContainsFunc(s.Open, func(d api.Desc) bool { return d.Num == num })
}

// byCoreAndFd is the row in which descriptors stand.
func byCoreAndFd(a, b api.Desc) int {
	return cmp.Or(cmp.Compare(a.Core, b.Core), cmp.Compare(a.Fd, b.Fd))
}

// byNum is the row in which inodes stand.
func byNum(a, b api.Inode) int {
	return cmp.Compare(a.Num, b.Num)
}

// byName is the row in which entries stand.
func byName(a, b api.Entry) int {
	return cmp.Compare(a.Name, b.Name)
}

// putIn puts one among others that stand in a row, where it belongs.
func putIn[T any](others []T, one T, row func(a, b T) int) []T {
	at, _ := slices.BinarySearchFunc(others, one, row)
	return slices.Insert(others, at, one)
}

// inRow tells whether each stands strictly behind the one ahead of it.
func inRow[T any](all []T, row func(a, b T) int) bool {
	for at := 1; at < len(all); at++ {
		if row(all[at-1], all[at]) >= 0 {
			return false
		}
	}
	return true
}
