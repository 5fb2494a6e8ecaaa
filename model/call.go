package model

import (
	"concourse/api"
)

// call is a call on a state of its own, which it turns in place. Each kind of call
// throws what codes it has to ahead of the first turn, so that beside a code the state
// is as it was.
type call struct {
	api.Call
	api.State
	pick func(free []int) int // which of the descriptors that are free an Open takes
}

// thrown is a code that ends a call.
type thrown int

// throw ends the call with a code; CodeOK lets it go on.
func throw(code int) {
	if code != api.CodeOK {
		panic(thrown(code))
	}
}

// throwIf ends the call with a code, if that applies.
func throwIf(applies bool, code int) {
	if applies {
		throw(code)
	}
}

// play does a call on a copy of a state.
func play(s api.State, c api.Call, pick func(free []int) int) (api.State, api.Result) {
	x := &call{Call: c, State: copied(s), pick: pick}
	answer := x.caught()
	return x.State, answer
}

// caught tells what the call answers: a code that it throws, or what it comes to.
func (c *call) caught() (answer api.Result) {
	defer func() {
		switch what := recover().(type) {
		case nil:
		case thrown:
			answer = api.Result{Code: int(what)}
		default:
			panic(what)
		}
	}()
	throwIf(!May(c.State) || c.Core < 0 || c.Core >= len(c.Made), api.EINVAL)
	return c.do()
}

// do tells the kinds of calls apart.
func (c *call) do() api.Result {
	switch c.Kind {
	case api.CallCreate:
		return c.create(false)
	case api.CallMkdir:
		return c.create(true)
	case api.CallOpen:
		return c.open()
	case api.CallClose:
		return c.close()
	case api.CallRead:
		return c.read()
	case api.CallWrite:
		return c.write()
	case api.CallTruncate:
		return c.truncate()
	case api.CallSize:
		return c.size()
	case api.CallLink:
		return c.link()
	case api.CallUnlink:
		return c.unlink()
	case api.CallRmdir:
		return c.rmdir()
	case api.CallRename:
		return c.rename()
	case api.CallList:
		return c.list()
	case api.CallStat:
		return c.stat()
	case api.CallLinks:
		return c.links()
	case api.CallFsync:
		return c.fsync()
	case api.CallSync:
		return api.Result{}
	}
	return api.Result{Code: api.EINVAL}
}
