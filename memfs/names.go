package memfs

import (
	"slices"
	"strings"

	"concourse/api"
	"concourse/name"
	"concourse/path"
)

// spot is where an entry stands, or may stand: the directories that lead there, from the
// root on, and a name in the last one.
type spot struct {
	dirs []int
	name string
}

// dir is the directory of a spot.
func (p spot) dir() int {
	return p.dirs[len(p.dirs)-1]
}

// word is the place of the bucket that a spot is in.
func (p spot) word() int {
	return wordOf(p.dir(), bucketsOf+name.Bucket(p.name))
}

// find gives the entry of a name.
func (b bucket) find(text string) (entry, bool) {
	at := slices.IndexFunc(b, func(x entry) bool { return x.Name == text })
	if at < 0 {
		return entry{}, false
	}
	return b[at], true
}

// without gives the entries of other names.
func (b bucket) without(text string) bucket {
	return slices.DeleteFunc(slices.Clone(b), func(x entry) bool { return x.Name == text })
}

// bucket gives the bucket that a word names.
func (v view) bucket(at int) bucket {
	b, ok := v.look(at).(bucket)
	if !ok {
		return nil // no entry ever was there
	}
	return b
}

// entries gives all entries of a directory, by name rising.
func (v view) entries(dir int) []entry {
	var all []entry
	for number := range api.Buckets {
		all = append(all, v.bucket(wordOf(dir, bucketsOf+number))...)
	}
	slices.SortFunc(all, func(a, b entry) int { return strings.Compare(a.Name, b.Name) })
	return all
}

// isEmpty tells whether a directory has no entry. It looks no further than to the first one.
func (v view) isEmpty(dir int) bool {
	for number := range api.Buckets {
		if len(v.bucket(wordOf(dir, bucketsOf+number))) > 0 {
			return false
		}
	}
	return true
}

// count lets a file have so many more entries.
func (v view) count(num, more int) {
	v.words.Add(v.core, wordOf(num, linksOf+v.core), more)
}

// namesOf cuts a path into its names.
func namesOf(p string) []string {
	names, e := path.Parse(p)
	throw(path.Code(e))
	return names
}

// walk goes name by name from the root on: the entry that it comes to, and the
// directories that it went through.
func (c *call) walk(names []string) (entry, []int) {
	x := entry{Entry: api.Entry{Num: root}, dir: true}
	var dirs []int
	for _, text := range names {
		throwIf(!x.dir, api.ENOTDIR)
		dirs = append(dirs, x.Num)
		next, ok := c.at(spot{dirs, text})
		throwIf(!ok, api.ENOENT)
		x = next
	}
	return x, dirs
}

// found gives the entry that a path leads to.
func (c *call) found(p string) entry {
	x, _ := c.walk(namesOf(p))
	return x
}

// spotOf gives the spot in its parent that a path leads to.
func (c *call) spotOf(p string) spot {
	names := namesOf(p)
	throwIf(len(names) == 0, api.EINVAL)
	end := len(names) - 1
	parent, dirs := c.walk(names[:end])
	throwIf(!parent.dir, api.ENOTDIR)
	return spot{append(dirs, parent.Num), names[end]}
}

// at gives the entry at a spot.
func (c *call) at(p spot) (entry, bool) {
	return c.bucket(p.word()).find(p.name)
}

// put lets an inode have an entry at a spot.
func (c *call) put(p spot, num int, dir bool) {
	own := entry{api.Entry{Name: strings.Clone(p.name), Num: num}, dir}
	c.let(p.word(), slices.Concat(c.bucket(p.word()), bucket{own}))
}

// take takes the entry at a spot away.
func (c *call) take(p spot) {
	c.let(p.word(), c.bucket(p.word()).without(p.name))
}

func (c *call) create(dir bool) api.Result {
	p := c.spotOf(c.Path)
	_, is := c.at(p)
	throwIf(is, api.EEXIST)
	throwIf(len(c.bucket(p.word())) >= api.MaxSlots, api.ENOSPC)
	num, e := c.nums.Next(c.Core)
	throwIf(e != api.OK, api.ENOSPC)
	c.put(p, num, dir)
	if !dir {
		c.count(num, 1) // of directories nobody asks it, and each but the root has one
	}
	return api.Result{}
}

func (c *call) link() api.Result {
	x := c.found(c.Path)
	throwIf(x.dir, api.EISDIR)
	p := c.spotOf(c.Path2)
	_, is := c.at(p)
	throwIf(is, api.EEXIST)
	throwIf(len(c.bucket(p.word())) >= api.MaxSlots, api.ENOSPC)
	c.put(p, x.Num, false)
	c.count(x.Num, 1)
	return api.Result{}
}

func (c *call) unlink() api.Result {
	p := c.spotOf(c.Path)
	x, is := c.at(p)
	throwIf(!is, api.ENOENT)
	throwIf(x.dir, api.EISDIR)
	c.take(p)
	c.count(x.Num, -1)
	return api.Result{}
}

func (c *call) rmdir() api.Result {
	p := c.spotOf(c.Path)
	x, is := c.at(p)
	throwIf(!is, api.ENOENT)
	throwIf(!x.dir, api.ENOTDIR)
	throwIf(!c.isEmpty(x.Num), api.ENOTEMPTY)
	c.take(p)
	return api.Result{}
}

func (c *call) rename() api.Result {
	from := c.spotOf(c.Path)
	x, is := c.at(from)
	throwIf(!is, api.ENOENT)
	to := c.spotOf(c.Path2)
	throwIf(slices.Contains(to.dirs, x.Num), api.EINVAL)
	_, is = c.at(to)
	throwIf(is, api.EEXIST)
	others := c.bucket(to.word())
	if from.word() == to.word() {
		others = others.without(from.name)
	}
	throwIf(len(others) >= api.MaxSlots, api.ENOSPC)
	c.take(from)
	c.put(to, x.Num, x.dir)
	return api.Result{}
}

func (c *call) list() api.Result {
	x := c.found(c.Path)
	throwIf(!x.dir, api.ENOTDIR)
	var names []string
	for _, own := range c.entries(x.Num) {
		names = append(names, own.Name)
	}
	return api.Result{Names: names}
}

func (c *call) stat() api.Result {
	x := c.found(c.Path)
	if x.dir {
		return api.Result{Dir: true}
	}
	return api.Result{Num: c.length(x.Num)}
}

func (c *call) links() api.Result {
	x := c.found(c.Path)
	throwIf(x.dir, api.EISDIR)
	sum := 0
	for core := range c.words.Cores() {
		sum += c.load(wordOf(x.Num, linksOf+core))
	}
	return api.Result{Num: sum}
}
