package depend

import (
	"cmp"
	"slices"
	"strconv"

	"concourse/api"
	"concourse/model"
	"concourse/name"
	"concourse/path"
)

// root is the number of the directory that paths begin at.
const root = 1

// gathering is a state with the keys that were gathered of a call on it so far.
type gathering struct {
	api.State
	keys []api.Key
}

// spot is where a path leads: its parent, its last name, the number that stands there,
// or 0.
type spot struct {
	parent int
	name   string
	num    int
}

// done does a call, and tells the state behind it and its keys.
func done(s api.State, c api.Call) (api.State, []api.Key) {
	behind, answer := model.Do(s, c)
	if answer.Code != api.CodeOK {
		return behind, nil
	}
	g := &gathering{State: s}
	if c.Kind == api.CallCreate || c.Kind == api.CallMkdir {
		g.State = behind // the inode is not there ahead of it
	}
	g.gather(c)
	slices.SortFunc(g.keys, byNumAndName)
	return behind, slices.Compact(g.keys)
}

// byNumAndName is the row in which keys stand.
func byNumAndName(a, b api.Key) int {
	return cmp.Or(cmp.Compare(a.Num, b.Num), cmp.Compare(a.Name, b.Name))
}

// gather takes in the keys of a call that answers CodeOK.
func (g *gathering) gather(c api.Call) {
	switch c.Kind {
	case api.CallCreate, api.CallMkdir, api.CallUnlink, api.CallRmdir:
		at := g.walk(c.Path)
		g.entry(at)
		g.turned(at.num)
	case api.CallOpen:
		g.turned(g.walk(c.Path).num)
	case api.CallClose, api.CallTruncate:
		g.turned(g.opened(c.Core, c.Fd))
	case api.CallWrite:
		if c.Data == "" {
			return
		}
		g.turned(g.opened(c.Core, c.Fd))
	case api.CallLink:
		g.turned(g.walk(c.Path).num)
		g.entry(g.walk(c.Path2))
	case api.CallRename:
		from := g.walk(c.Path)
		g.entry(from)
		g.entry(g.walk(c.Path2))
		g.turned(from.num)
	default:
		return
	}
	g.turned(-1 - c.Core)
}

// walk goes name by name to where a path leads, and takes in each directory that it goes
// through.
func (g *gathering) walk(p string) spot {
	names, _ := path.Parse(p) // a path of a call that answers CodeOK
	at := spot{num: root}
	for _, text := range names {
		g.add(at.num, through)
		at = spot{at.num, text, g.below(at.num, text)}
	}
	return at
}

// add takes a key in.
func (g *gathering) add(num int, text string) {
	g.keys = append(g.keys, api.Key{Num: num, Name: text})
}

// turned takes in that an inode is turned or opened, or that a core's own row goes on.
func (g *gathering) turned(num int) {
	g.add(num, whole)
}

// entry takes in that the entry at a spot is turned.
func (g *gathering) entry(at spot) {
	g.add(at.parent, "/"+strconv.Itoa(name.Bucket(at.name)))
}

// below tells the number of a directory's entry, or 0.
func (g *gathering) below(dir int, text string) int {
	for _, x := range g.Inodes {
		if x.Num != dir {
			continue
		}
		for _, e := range x.Entries {
			if e.Name == text {
				return e.Num
			}
		}
	}
	return 0
}

// opened tells the number that a core's descriptor is for, or 0.
func (g *gathering) opened(core, fd int) int {
	for _, d := range g.Open {
		if d.Core == core && d.Fd == fd {
			return d.Num
		}
	}
	return 0
}
