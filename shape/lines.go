package shape

import (
	"cmp"
	"slices"
	"strconv"
	"strings"

	"concourse/api"
)

// gathering is a state that may be, with the lines that were gathered of it so far.
type gathering struct {
	api.State
	lines strings.Builder
	met   []bool // by place in Inodes: did the walk come by?
}

// line puts words behind the lines that are there.
func (g *gathering) line(words ...string) {
	g.lines.WriteString(strings.Join(words, " "))
	g.lines.WriteByte('\n')
}

// place tells where the inode of a number stands: they rise.
func (g *gathering) place(num int) int {
	at, _ := slices.BinarySearchFunc(g.Inodes, num, func(x api.Inode, num int) int { return cmp.Compare(x.Num, num) })
	return at
}

// walk gathers the lines of a path, which leads to the inode at a place, and of all below
// it. It prints paths by itself, since they may be deeper than those that calls take; the
// root's is empty here, so that each name has just one stroke ahead.
func (g *gathering) walk(path string, at int) {
	x := g.Inodes[at]
	g.met[at] = true
	if !x.Dir {
		g.line("f", path, strconv.Itoa(x.Num), hex(x.Data))
		return
	}
	g.line("d", cmp.Or(path, "/"), strconv.Itoa(x.Num))
	for _, e := range x.Entries {
		g.walk(path+"/"+e.Name, g.place(e.Num))
	}
}

// rest gathers, behind the walk, the lines of what no path tells. What the walk did not
// meet has no entry: it is a file that is open, as the state may be.
func (g *gathering) rest() {
	for at, x := range g.Inodes {
		if !g.met[at] {
			g.line("u", strconv.Itoa(x.Num), hex(x.Data))
		}
	}
	for _, d := range g.Open {
		g.line("o", strconv.Itoa(d.Core), strconv.Itoa(d.Fd), strconv.Itoa(d.Num))
	}
	made := []string{"m"}
	for _, count := range g.Made {
		made = append(made, strconv.Itoa(count))
	}
	g.line(made...)
}

// hex tells bytes as two digits each, or that there are none.
func hex(data string) string {
	const digits = "0123456789abcdef"
	if data == "" {
		return "-"
	}
	var text strings.Builder
	for at := range len(data) {
		text.WriteByte(digits[data[at]>>4])
		text.WriteByte(digits[data[at]&15])
	}
	return text.String()
}
