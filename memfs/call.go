package memfs

import (
	"concourse/api"
)

// call is a call under way, on what its core sees. It throws its codes ahead of the
// first word that it turns, so that beside a code nothing is turned.
type call struct {
	api.Call
	view
}

// stand is where a call stands: begun, looked, looking, holding, settled or ended.
type stand any

// begun is where a call stands ahead of its first step, and where one that waits for
// another stands again.
type begun struct{}

// ended is where a call stands that answers its result.
type ended struct {
	api.Result
}

// thrown is a code that ends a call.
type thrown int

// throw ends the call with a code; CodeOK lets it go on.
func throw(code int) {
	if code != api.CodeOK {
		panic(thrown(code))
	}
}

// throwIf ends the call with a code, if that applies.
func throwIf(applies bool, code int) {
	if applies {
		throw(code)
	}
}

// step does the step that follows where the call stands, and tells where it stands then.
func (c *call) step(at stand) (next stand) {
	defer func() {
		what := recover()
		code, ok := what.(thrown)
		if ok {
			next = ended{api.Result{Code: int(code)}}
		} else if what != nil {
			panic(what)
		}
	}()
	return c.goOn(at)
}

// goOn tells apart where calls stand.
func (c *call) goOn(at stand) stand {
	if x, ok := at.(looked); ok {
		return c.lookOn(x)
	}
	if x, ok := at.(looking); ok {
		return c.lookAgain(x)
	}
	if x, ok := at.(holding); ok {
		return c.settle(x)
	}
	if x, ok := at.(settled); ok {
		return c.release(x)
	}
	return c.first()
}

// first is the first step, told apart by the kinds of calls. Most calls have no other.
func (c *call) first() stand {
	switch c.Kind {
	case api.CallRead:
		return c.read()
	case api.CallWrite:
		return c.write()
	case api.CallTruncate:
		return c.truncate()
	}
	return ended{c.atOnce()}
}

// atOnce does a call of one step.
func (c *call) atOnce() api.Result {
	switch c.Kind {
	case api.CallCreate:
		return c.create(false)
	case api.CallMkdir:
		return c.create(true)
	case api.CallOpen:
		return c.open()
	case api.CallClose:
		return c.close()
	case api.CallSize:
		return c.size()
	case api.CallLink:
		return c.link()
	case api.CallUnlink:
		return c.unlink()
	case api.CallRmdir:
		return c.rmdir()
	case api.CallRename:
		return c.rename()
	case api.CallList:
		return c.list()
	case api.CallStat:
		return c.stat()
	case api.CallLinks:
		return c.links()
	case api.CallFsync:
		c.file()
	}
	return api.Result{} // of Fsync and Sync too: there is nothing but memory
}
