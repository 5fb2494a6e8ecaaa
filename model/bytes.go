package model

import (
	"slices"
	"strings"

	"concourse/api"
)

// inFile tells whether a place or a length is one that a file can have.
func inFile(n int) bool {
	return n >= 0 && n <= api.MaxFile
}

// placeOfFd tells where a descriptor of the call's core stands, or -1.
func (c *call) placeOfFd(fd int) int {
	return slices.IndexFunc(c.Open, func(d api.Desc) bool { return d.Core == c.Core && d.Fd == fd })
}

// own tells where the call's descriptor stands.
func (c *call) own() int {
	place := c.placeOfFd(c.Fd)
	throwIf(place < 0, api.EBADF)
	return place
}

// file gives the file that the call's descriptor is for.
func (c *call) file() *api.Inode {
	return inode(c.State, c.Open[c.own()].Num)
}

// free tells the descriptors that the call's core has not, rising.
func (c *call) free() []int {
	var fds []int
	for fd := range api.MaxFds {
		if c.placeOfFd(fd) < 0 {
			fds = append(fds, fd)
		}
	}
	return fds
}

func (c *call) open() api.Result {
	x := c.found(c.Path)
	throwIf(x.Dir, api.EISDIR)
	free := c.free()
	throwIf(len(free) == 0, api.EMFILE)
	fd := c.pick(free)
	c.Open = putIn(c.Open, api.Desc{Core: c.Core, Fd: fd, Num: x.Num}, byCoreAndFd)
	return api.Result{Fd: fd}
}

func (c *call) close() api.Result {
	place := c.own()
	num := c.Open[place].Num
	c.Open = slices.Delete(c.Open, place, place+1)
	c.dropUnheld(num)
	return api.Result{}
}

func (c *call) read() api.Result {
	data := c.file().Data
	throwIf(!inFile(c.Off) || !inFile(c.Num), api.EINVAL)
	from, to := min(c.Off, len(data)), min(c.Off+c.Num, len(data))
	return api.Result{Data: strings.Clone(data[from:to])}
}

func (c *call) write() api.Result {
	x := c.file()
	size := len(c.Data)
	throwIf(!inFile(c.Off) || !inFile(size), api.EINVAL)
	throwIf(!inFile(c.Off+size), api.ENOSPC)
	if size > 0 {
		bytes := sized(x.Data, max(len(x.Data), c.Off+size))
		copy(bytes[c.Off:], c.Data)
		x.Data = string(bytes)
	}
	return api.Result{Num: size}
}

func (c *call) truncate() api.Result {
	x := c.file()
	throwIf(!inFile(c.Num), api.EINVAL)
	x.Data = string(sized(x.Data, c.Num))
	return api.Result{}
}

func (c *call) size() api.Result {
	return api.Result{Num: len(c.file().Data)}
}

func (c *call) fsync() api.Result {
	c.own()
	return api.Result{}
}

// sized gives so many bytes: a text's own, as far as they go, and 0 behind them.
func sized(text string, size int) []byte {
	bytes := make([]byte, size)
	copy(bytes, text)
	return bytes
}
