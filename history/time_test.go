package history_test

import (
	"fmt"
	"strings"
	"testing"
	"time"

	"concourse/api"
	"concourse/history"
)

// soon fails unless what it calls ends in little time.
func soon(t *testing.T, what string, call func()) {
	t.Helper()
	begin := time.Now()
	call()
	if took := time.Since(begin); took > 30*time.Second {
		t.Errorf("%s: %v", what, took)
	}
}

// wantSoon fails unless Legal and Ends tell this, in little time.
func wantSoon(t *testing.T, what string, legal, ends bool, s api.State, last api.State, ops []api.Op) {
	t.Helper()
	soon(t, what, func() {
		if got, e := history.Legal(s, ops); got != legal || e != api.OK {
			t.Errorf("%s: Legal: %t, error %d", what, got, e)
		}
	})
	soon(t, what, func() {
		if got, e := history.Ends(s, ops, last); got != ends || e != api.OK {
			t.Errorf("%s: Ends: %t, error %d", what, got, e)
		}
	})
}

// tenCalls are ten calls that all may stand in any row, some kinds of them at aState.
func tenCalls() map[string]func(at int) api.Call {
	return map[string]func(at int) api.Call{
		"syncs":           func(at int) api.Call { return syncing() },
		"reads":           func(at int) api.Call { return by(at%2, read(0, at, 9)) },
		"creates":         func(at int) api.Call { return create(fmt.Sprint("/e/", at)) },
		"creates of many": func(at int) api.Call { return by(at%3, create(fmt.Sprint("/e/", at))) },
		"mkdirs":          func(at int) api.Call { return mkdir(fmt.Sprint("/e/", at)) },
		"links":           func(at int) api.Call { return link("/a", fmt.Sprint("/e/", at)) },
		"one byte":        func(at int) api.Call { return write(0, 3, string(rune('a'+at))) },
		"bytes":           func(at int) api.Call { return write(0, at, strings.Repeat(string(rune('a'+at)), 6)) },
		"in one another":  func(at int) api.Call { return write(0, at, strings.Repeat(string(rune('a'+at)), 30-2*at)) },
		"sizes":           func(at int) api.Call { return truncate(0, 10+at) },
	}
}

// P25.1, P25.2: ten operations that may stand in any row end soon, where all is legal, where the last answer is not, where
// none of them has ended, and where the last state is one that no row leads to.
func TestTenInAnyRow(t *testing.T) {
	s := aState(t)
	for what, call := range tenCalls() {
		t.Run(what, func(t *testing.T) {
			t.Parallel()
			var calls []api.Call
			for at := range 10 {
				calls = append(calls, call(at))
			}
			ops, last := atOnce(s, calls...)
			other := do(t, last, by(2, create("/other")))
			wantSoon(t, "as done", true, true, s, last, ops)
			r := row(3)
			r.shuffle(ops)
			wantSoon(t, "handed in otherwise", true, true, s, last, ops)
			wantSoon(t, "elsewhere", true, false, s, other, ops)
			wrong := append([]api.Op(nil), ops...)
			wrong[9].Result.Dir = true
			wantSoon(t, "one wrong", false, false, s, last, wrong)
			for at := range ops {
				ops[at].Result, ops[at].Ended = api.Result{}, -1
			}
			wantSoon(t, "none ended", true, true, s, last, ops)
			wantSoon(t, "none ended, elsewhere", true, false, s, other, ops)
			wantSoon(t, "none ended but one that is wrong", false, false, s, last, append(ops[:9], wrong[9]))
		})
	}
}

// P25.2: ten inodes that one core made in any row: whose number is whose is found soon, or that no row makes it so.
func TestTenNumbers(t *testing.T) {
	s := newState(t, 1, mkdir("/d"))
	var ops []api.Op
	for at := range 10 {
		ops = append(ops, op(create(fmt.Sprint("/d/", at)), 0, at, 100))
	}
	last := s
	for at := range 10 {
		last = do(t, last, ops[(7*at+3)%10].Call)
	}
	wantSoon(t, "creates", true, true, s, last, ops)
	wantSoon(t, "another's number", true, false, s, swapped(last, 2, 10), ops)
	for at := range ops {
		early := append([]api.Op(nil), ops...)
		for other := range early {
			early[other].Began = 50
		}
		early[at].Began, early[at].Ended = 0, 50
		wantSoon(t, "one ahead of all", true, at == 3, s, last, early)
	}
	for at := range ops {
		ops[at].Ended = -1
	}
	wantSoon(t, "none ended", true, true, s, last, ops)
	wantSoon(t, "none ended, seven made", true, true, s, do(t, s, ops[9].Call, ops[1].Call, ops[8].Call, ops[3].Call, ops[2].Call, ops[7].Call, ops[0].Call), ops)
	wantSoon(t, "none ended, one gone", true, false, s, do(t, last, unlink("/d/4")), ops)
	ops[9] = op(unlink("/d/4"), 0, 50, 100)
	last = s
	for _, at := range []int{3, 1, 4, 5, 2} {
		last = do(t, last, ops[at].Call)
	}
	wantSoon(t, "one unlinked", true, true, s, do(t, last, unlink("/d/4")), ops)
	wantSoon(t, "one unlinked, elsewhere", true, false, s, do(t, last, unlink("/d/5")), ops)
}

// P25.1, P25.2: ten operations on a state of many inodes end soon too.
func TestTenOnAGreatState(t *testing.T) {
	s := greatState(t)
	var calls []api.Call
	for at := range 10 {
		calls = append(calls, by(at%4, create(fmt.Sprintf("/%d/n", at%8)+strings.Repeat("n", at/8))))
	}
	ops, last := atOnce(s, calls...)
	for _, o := range ops {
		if o.Result.Code != 0 {
			t.Fatalf("code %d of %+v", o.Result.Code, o.Call)
		}
	}
	wantSoon(t, "creates", true, true, s, last, ops)
	wantSoon(t, "creates, elsewhere", true, false, s, do(t, last, unlink("/1/1")), ops)
	ops[4].Result.Num = 1
	wantSoon(t, "one wrong", false, false, s, last, ops)
}

// P25.1: many operations, of which the last one may not be or there are too many, are told soon.
func TestManyOperations(t *testing.T) {
	s := newState(t, 2)
	ops := make([]api.Op, 200000)
	for at := range ops {
		ops[at] = op(create("/a"), 0, 0, 1)
	}
	soon(t, "too many", func() { wantError(t, api.ErrHistoryLong, s, s, ops...) })
	ops[len(ops)-1].Ended = 0
	soon(t, "too many, one wrong", func() { wantError(t, api.ErrHistoryForm, s, s, ops...) })
}
