package memfs

import (
	"slices"

	"concourse/api"
)

const (
	halfPages = api.MaxPages / 2
	halfBytes = halfPages * api.PageBytes
)

// span is bytes of a file: those from one on, up to another, which is not of them.
type span struct {
	from, to int
}

// low and high are what a span has of each half.
func (s span) low() span {
	return span{s.from, min(s.to, halfBytes)}
}

func (s span) high() span {
	return span{max(s.from, halfBytes), s.to}
}

// inBoth tells whether a span has bytes of both halves.
func (s span) inBoth() bool {
	return s.from < halfBytes && s.to > halfBytes
}

// pages gives the pages that a span has bytes of, each with these bytes.
func (s span) pages() []span {
	var all []span
	for at := s.from; at < s.to; {
		end := min(s.to, (at/api.PageBytes+1)*api.PageBytes)
		all = append(all, span{at, end})
		at = end
	}
	return all
}

// wordOfPage is the place of the page that a byte is in.
func wordOfPage(num, at int) int {
	return wordOf(num, pagesOf+at/api.PageBytes)
}

// page gives the page that a word names, and tells whether it is held.
func (v view) page(at int) (page, bool) {
	x := v.look(at)
	if h, ok := x.(held); ok {
		return h.page, true
	}
	if p, ok := x.(page); ok {
		return p, false
	}
	return page{}, false // no byte ever was there
}

// length gives a file's size.
func (v view) length(num int) int {
	n, ok := v.look(wordOf(num, sizeOf)).(length)
	if !ok {
		return 0
	}
	return int(n)
}

// setLength lets a file have another size. A size that stays is not written, so that who
// reads it alone does not meet those who turn bytes within it.
func (v view) setLength(num, size int) {
	if v.length(num) != size {
		v.let(wordOf(num, sizeOf), length(size))
	}
}

// anyHeld tells whether a page of a span is held.
func (v view) anyHeld(num int, s span) bool {
	return slices.ContainsFunc(s.pages(), func(own span) bool {
		_, is := v.page(wordOfPage(num, own.from))
		return is
	})
}

// text gives a span's bytes.
func (v view) text(num int, s span) string {
	var text []byte
	for _, own := range s.pages() {
		p, _ := v.page(wordOfPage(num, own.from))
		begin := own.from % api.PageBytes
		text = append(text, p[begin:begin+own.to-own.from]...)
	}
	return string(text)
}

// numbers gives the words of a file's size and of a span's pages.
func (v view) numbers(num int, s span) []int {
	all := []int{v.load(wordOf(num, sizeOf))}
	for _, own := range s.pages() {
		all = append(all, v.load(wordOfPage(num, own.from)))
	}
	return all
}
