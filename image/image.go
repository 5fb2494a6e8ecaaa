// Package image writes states as an image's bytes, with their sum behind them, and reads
// such bytes, whether or not the state may be: what layers 19 and 20 share (DOC.md,
// chapter 19, says which bytes these are).
package image

import (
	"concourse/api"
	"concourse/sum"
)

const (
	head      = "CNC1"
	sumSize   = 8
	leastSize = len(head) + 1 + sumSize
)

// Write gives the bytes of a state's Made and Inodes, whose numbers are from 0 on.
func Write(s api.State) string {
	var w writer
	w.state(s)
	body := string(w.out)
	return body + sumOf(body)
}

// Read gives the state that bytes say: ErrLayoutForm or ErrLayoutSum, if they say none.
func Read(b string) (api.State, api.Errno) {
	if len(b) < leastSize || len(b) > api.MaxText {
		return api.State{}, api.ErrLayoutForm
	}
	end := len(b) - sumSize
	if b[end:] != sumOf(b[:end]) {
		return api.State{}, api.ErrLayoutSum
	}
	x := state{reader: reader{left: b[:end]}}
	x.read()
	if !x.ended() {
		return api.State{}, api.ErrLayoutForm
	}
	return x.State, api.OK
}

// sumOf is the sum of bytes, as bytes, the highest first.
func sumOf(body string) string {
	var tail [sumSize]byte
	left := sum.Of(body)
	for at := sumSize - 1; at >= 0; at-- {
		tail[at] = byte(left)
		left >>= 8
	}
	return string(tail[:])
}
