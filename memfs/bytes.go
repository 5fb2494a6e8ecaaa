package memfs

import (
	"slices"
	"strings"

	"concourse/api"
)

// A step reaches half of a file's pages at most, the low ones or the high ones. What
// goes for both halves takes more steps than one:
//
// A call that turns bytes holds its low pages; then, in one step, it turns the size and
// the high pages, from which moment on it is done for all others; then it lets the low
// pages go, turned. High pages are held by nobody behind a step, so whoever holds pages
// waits for nobody.
//
// A call that reads looks at the size and the low pages, then at the high ones, then at
// the size and the low ones again: if no word of them is another than it was, they were
// so while it looked at the high ones.
//
// Whoever finds a page that is held waits: its next step is its first one again.

// change is how a call turns a file's bytes: text stands from a byte on, and a size
// becomes another.
type change struct {
	num    int
	from   int
	text   string
	size   func(was int) int
	answer api.Result
}

// span is the bytes that a change turns.
func (x change) span() span {
	return span{x.from, x.from + len(x.text)}
}

// lay lets the bytes of a span be what a change makes of them.
func (c *call) lay(x change, s span) {
	for _, own := range s.pages() {
		at := wordOfPage(x.num, own.from)
		p, _ := c.page(at)
		copy(p[own.from%api.PageBytes:], x.text[own.from-x.from:own.to-x.from])
		c.let(at, p)
	}
}

// hold keeps all others from the pages of a span.
func (c *call) hold(num int, s span) {
	for _, own := range s.pages() {
		at := wordOfPage(num, own.from)
		p, _ := c.page(at)
		c.let(at, held{p})
	}
}

// holding is where a call stands that holds the low pages of its change.
type holding struct{ change }

// settled is where a call stands whose change is done, but that its low pages are held.
type settled struct{ change }

// turn begins a change.
func (c *call) turn(x change) stand {
	low := x.span().low()
	if c.anyHeld(x.num, low) {
		return begun{}
	}
	if x.span().inBoth() {
		c.hold(x.num, low)
		return holding{x}
	}
	c.setLength(x.num, x.size(c.length(x.num)))
	c.lay(x, x.span())
	return ended{x.answer}
}

// settle is the step in which a change in both halves is done, as others see it.
func (c *call) settle(x holding) stand {
	c.setLength(x.num, x.size(c.length(x.num)))
	c.lay(x.change, x.span().high())
	return settled{x.change}
}

// release lets the low pages go.
func (c *call) release(x settled) stand {
	c.lay(x.change, x.span().low())
	return ended{x.answer}
}

// file gives the number that the call's descriptor is for.
func (c *call) file() int {
	num, e := c.fds.Get(c.Core, c.Fd)
	throwIf(e != api.OK, api.EBADF)
	return num
}

// inFile tells whether a place or a length is one that a file can have.
func inFile(n int) bool {
	return n >= 0 && n <= api.MaxFile
}

func (c *call) write() stand {
	num, size := c.file(), len(c.Data)
	throwIf(!inFile(c.Off) || !inFile(size), api.EINVAL)
	end := c.Off + size
	throwIf(!inFile(end), api.ENOSPC)
	if size == 0 {
		return ended{}
	}
	longer := func(was int) int { return max(was, end) }
	return c.turn(change{num, c.Off, c.Data, longer, api.Result{Num: size}})
}

// truncate lets there be zeros from the new end on. Behind a file's end there are none but
// these, so that it need not ask where the end was.
func (c *call) truncate() stand {
	num, size := c.file(), c.Num
	throwIf(!inFile(size), api.EINVAL)
	zeros := strings.Repeat("\x00", api.MaxFile-size)
	return c.turn(change{num: num, from: size, text: zeros, size: func(int) int { return size }})
}

// sight is what a Read saw of a file's low half.
type sight struct {
	num     int
	span    span // the bytes that it reads
	numbers []int
	low     string
}

// looked is where a Read stands that saw the low half.
type looked struct{ sight }

// looking is where a Read stands that saw the high half too.
type looking struct {
	sight
	high string
}

func (c *call) read() stand {
	num := c.file()
	throwIf(!inFile(c.Off) || !inFile(c.Num), api.EINVAL)
	all := span{c.Off, min(c.Off+c.Num, c.length(num))}
	if c.anyHeld(num, all.low()) {
		return begun{}
	}
	if all.inBoth() {
		return looked{sight{num, all, c.numbers(num, all.low()), c.text(num, all.low())}}
	}
	return ended{api.Result{Data: c.text(num, all)}}
}

// lookOn is a Read's step between its two looks at the low half.
func (c *call) lookOn(x looked) stand {
	return looking{x.sight, c.text(x.num, x.span.high())}
}

// lookAgain ends a Read, if the size and the low half are as they were.
func (c *call) lookAgain(x looking) stand {
	if !slices.Equal(c.numbers(x.num, x.span.low()), x.numbers) {
		return begun{}
	}
	return ended{api.Result{Data: x.low + x.high}}
}

func (c *call) open() api.Result {
	x := c.found(c.Path)
	throwIf(x.dir, api.EISDIR)
	fd, e := c.fds.Open(c.Core, x.Num)
	throwIf(e != api.OK, api.EMFILE)
	return api.Result{Fd: fd}
}

func (c *call) close() api.Result {
	throwIf(c.fds.Close(c.Core, c.Fd) != api.OK, api.EBADF)
	return api.Result{}
}

func (c *call) size() api.Result {
	return api.Result{Num: c.length(c.file())}
}
