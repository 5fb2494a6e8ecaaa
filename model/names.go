package model

import (
	"slices"
	"strings"

	"concourse/api"
	"concourse/name"
	"concourse/path"
)

// spot is where an entry stands, or may stand: a directory's number, a name in it.
type spot struct {
	dir  int
	name string
}

// found gives the inode that a path leads to.
func (c *call) found(p string) *api.Inode {
	num, code := Find(c.State, p)
	throw(code)
	return inode(c.State, num)
}

// spotOf gives the spot in its parent that a path leads to.
func (c *call) spotOf(p string) spot {
	names, code := namesOf(p)
	throw(code)
	throwIf(len(names) == 0, api.EINVAL)
	end := len(names) - 1
	num, code := walk(c.State, names[:end])
	throw(code)
	throwIf(!inode(c.State, num).Dir, api.ENOTDIR)
	return spot{num, names[end]}
}

// at gives the inode of the entry at a spot, or nil.
func (c *call) at(p spot) *api.Inode {
	entries := inode(c.State, p.dir).Entries
	place := placeOf(entries, p.name)
	if place < 0 {
		return nil
	}
	return inode(c.State, entries[place].Num)
}

// isFull tells whether a spot's bucket has no room for its name, even when the entry at
// the spot that is left is no longer there.
func (c *call) isFull(p, left spot) bool {
	count := 0
	for _, e := range inode(c.State, p.dir).Entries {
		if name.Bucket(e.Name) == name.Bucket(p.name) && left != (spot{p.dir, e.Name}) {
			count++
		}
	}
	return count >= api.MaxSlots
}

// put lets an inode have an entry at a spot.
func (c *call) put(p spot, num int) {
	x := inode(c.State, p.dir)
	x.Entries = putIn(x.Entries, api.Entry{Name: p.name, Num: num}, byName)
}

// take takes the entry at a spot away.
func (c *call) take(p spot) {
	x := inode(c.State, p.dir)
	place := placeOf(x.Entries, p.name)
	num := x.Entries[place].Num
	x.Entries = slices.Delete(x.Entries, place, place+1)
	c.dropUnheld(num)
}

// dropUnheld takes an inode away that has no entry and is not open.
func (c *call) dropUnheld(num int) {
	if Links(c.State, num) == 0 && !isOpen(c.State, num) {
		c.Inodes = slices.DeleteFunc(c.Inodes, func(x api.Inode) bool { return x.Num == num })
	}
}

func (c *call) create(dir bool) api.Result {
	p := c.spotOf(c.Path)
	throwIf(c.at(p) != nil, api.EEXIST)
	given := c.Made[c.Core]
	throwIf(c.isFull(p, spot{}) || given >= api.MaxMade, api.ENOSPC)
	num := numOf(c.Core, given)
	c.Made[c.Core]++
	c.Inodes = putIn(c.Inodes, api.Inode{Num: num, Dir: dir}, byNum)
	c.put(p, num)
	return api.Result{}
}

func (c *call) link() api.Result {
	x := c.found(c.Path)
	throwIf(x.Dir, api.EISDIR)
	p := c.spotOf(c.Path2)
	throwIf(c.at(p) != nil, api.EEXIST)
	throwIf(c.isFull(p, spot{}), api.ENOSPC)
	c.put(p, x.Num)
	return api.Result{}
}

func (c *call) unlink() api.Result {
	p := c.spotOf(c.Path)
	x := c.at(p)
	throwIf(x == nil, api.ENOENT)
	throwIf(x.Dir, api.EISDIR)
	c.take(p)
	return api.Result{}
}

func (c *call) rmdir() api.Result {
	p := c.spotOf(c.Path)
	x := c.at(p)
	throwIf(x == nil, api.ENOENT)
	throwIf(!x.Dir, api.ENOTDIR)
	throwIf(len(x.Entries) > 0, api.ENOTEMPTY)
	c.take(p)
	return api.Result{}
}

func (c *call) rename() api.Result {
	from := c.spotOf(c.Path)
	x := c.at(from)
	throwIf(x == nil, api.ENOENT)
	to := c.spotOf(c.Path2)
	// Paths tell it, since a directory has but one; and below a file there is no spot.
	throwIf(path.Below(c.Path, c.Path2), api.EINVAL)
	throwIf(c.at(to) != nil, api.EEXIST)
	throwIf(c.isFull(to, from), api.ENOSPC)
	c.put(to, x.Num) // ahead of take, so that the inode is held all the time
	c.take(from)
	return api.Result{}
}

func (c *call) list() api.Result {
	x := c.found(c.Path)
	throwIf(!x.Dir, api.ENOTDIR)
	var names []string
	for _, e := range x.Entries {
		names = append(names, strings.Clone(e.Name))
	}
	return api.Result{Names: names}
}

func (c *call) stat() api.Result {
	x := c.found(c.Path)
	return api.Result{Dir: x.Dir, Num: len(x.Data)} // a directory has no bytes
}

func (c *call) links() api.Result {
	x := c.found(c.Path)
	throwIf(x.Dir, api.EISDIR)
	return api.Result{Num: Links(c.State, x.Num)}
}
