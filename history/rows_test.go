package history_test

import (
	"fmt"
	"testing"

	"concourse/api"
	"concourse/model"
)

// P25.1: nothing stands ahead of what ended before it began, also where it ended just then; what ended later may follow.
func TestEndedBesideBegan(t *testing.T) {
	s := newState(t, 2)
	for began := range 9 {
		for ended := 1; ended < 9; ended++ {
			first := op(create("/a"), 0, 0, ended)
			wantLegal(t, true, s, first, op(by(1, create("/a")), api.EEXIST, began, 20))
			second := op(by(1, create("/a")), 0, began, 20)
			wantLegal(t, ended > began, s, op(create("/a"), api.EEXIST, 0, ended), second)
			wantLegal(t, ended > began, s, second, op(create("/a"), api.EEXIST, 0, ended))
			wantLegal(t, true, s, op(create("/b"), 0, 0, ended), second)
			wantEnds(t, ended > began, s, do(t, s, create("/2"), create("/1")), op(create("/1"), 0, 0, ended), op(create("/2"), 0, began, 20))
			wantEnds(t, true, s, do(t, s, create("/1"), create("/2")), op(create("/1"), 0, 0, ended), op(create("/2"), 0, began, 20))
		}
	}
}

// P25.1: what ended long ago and what began far off stand so too.
func TestGreatTimes(t *testing.T) {
	s := newState(t, 2)
	const far = 1<<63 - 1
	for _, began := range []int{far - 2, far - 1} {
		for _, ended := range []int{1, 1 << 31, far - 2, far - 1, far} {
			wantLegal(t, ended > began, s, op(create("/a"), api.EEXIST, 0, ended), op(by(1, create("/a")), 0, began, far))
		}
	}
}

// P25.1: calls of one core stand in any row too, if they were under way at one time.
func TestOneCoresCalls(t *testing.T) {
	s := newState(t, 2)
	a, b := op(create("/a"), api.EEXIST, 1, 9), op(create("/a"), 0, 2, 3)
	inAnyList([]api.Op{a, b}, func(ops []api.Op) { wantLegal(t, true, s, ops...) })
	b.Began, b.Ended = 9, 10
	inAnyList([]api.Op{a, b}, func(ops []api.Op) { wantLegal(t, false, s, ops...) })
}

// moves are renames that all were under way at one time, and can stand in one row alone.
func moves(count int) []api.Op {
	var ops []api.Op
	for at := range count {
		ops = append(ops, op(by(at%2, rename(fmt.Sprint("/", at), fmt.Sprint("/", at+1))), 0, at, 100+at))
	}
	return ops
}

// P25.1, P25.2: operations that can stand in just one row, handed in in any; and one of them that has to stand elsewhere.
func TestJustOneRow(t *testing.T) {
	s := newState(t, 2, create("/0"))
	r := row(7)
	for count := 1; count <= api.MaxOps; count++ {
		ops := moves(count)
		last := do(t, s, rename("/0", fmt.Sprint("/", count)))
		for range 12 {
			r.shuffle(ops)
			wantLegal(t, true, s, ops...)
			wantEnds(t, true, s, last, ops...)
			wantEnds(t, false, s, s, ops...)
		}
		for at, o := range ops {
			ops[at].Result.Code = api.EEXIST
			wantLegal(t, false, s, ops...)
			wantEnds(t, false, s, last, ops...)
			ops[at] = o
		}
	}
}

// P25.1: of a row that has to be, each two may be kept from it by their times alone.
func TestKeptFromTheirRow(t *testing.T) {
	s := newState(t, 2, create("/0"))
	r := row(8)
	for count := 2; count <= 5; count++ {
		for early := range count {
			for late := range count {
				ops := moves(count)
				if early == late {
					continue
				}
				ops[late].Ended, ops[early].Began, ops[early].Ended = 60, 60, 200
				r.shuffle(ops)
				wantLegal(t, early > late, s, ops...)
				for at := range ops {
					if ops[at].Began == 60 {
						ops[at].Began = 59
					}
				}
				wantLegal(t, true, s, ops...)
			}
		}
	}
}

// P25.1: legal only where what is handed in last comes first, and the others in their turn behind.
func TestLastComesFirst(t *testing.T) {
	s := newState(t, 3)
	ops := []api.Op{
		op(create("/d/a"), 0, 0, 30), op(by(1, stat("/x")), api.ENOENT, 0, 30), op(rename("/d", "/x"), api.EEXIST, 0, 30), op(by(2, mkdir("/x")), 0, 0, 30), op(by(1, mkdir("/d")), 0, 0, 30),
	}
	inAnyList(ops, func(ops []api.Op) { wantLegal(t, true, s, ops...) })
	ops[3].Result.Code = api.EEXIST
	inAnyList(ops, func(ops []api.Op) { wantLegal(t, false, s, ops...) })
	ten := moves(10)
	ten[0], ten[9] = ten[9], ten[0]
	wantLegal(t, true, newState(t, 2, create("/0")), ten...)
}

// P25.1: rows where to go on by the first that may stand leads nowhere.
func TestGoesBack(t *testing.T) {
	s := newState(t, 3, create("/a"), mkdir("/d"))
	for _, ops := range [][]api.Op{
		{op(unlink("/a"), 0, 0, 9), op(by(1, stat("/a")), 0, 0, 9)},
		{op(unlink("/a"), 0, 0, 9), op(by(1, link("/a", "/b")), 0, 0, 9), op(by(2, links("/b")), 0, 0, 9)},
		{op(rename("/a", "/b"), 0, 0, 9), op(by(1, rename("/a", "/b")), api.ENOENT, 0, 9), op(by(2, rename("/b", "/a")), 0, 0, 9), op(by(2, stat("/b")), api.ENOENT, 0, 9)},
		{op(rmdir("/d"), 0, 0, 9), op(by(1, create("/d/x")), 0, 0, 9), op(by(2, unlink("/d/x")), 0, 0, 9)},
	} {
		ops[len(ops)-1].Result.Num = 0
		if ops[len(ops)-1].Call.Kind == api.CallLinks {
			ops[len(ops)-1].Result.Num = 2
		}
		inAnyList(ops, func(ops []api.Op) { wantLegal(t, true, s, ops...) })
	}
}

// P25.1: one call done over and over, of which just one may have come to something.
func TestLikeCalls(t *testing.T) {
	s := newState(t, 2, create("/a"))
	for came := range 4 {
		for _, c := range []api.Call{create("/b"), unlink("/a"), rename("/a", "/b"), link("/a", "/b"), mkdir("/b")} {
			_, first := model.Do(s, c)
			behind, _ := model.Do(s, c)
			_, then := model.Do(behind, c)
			var ops []api.Op
			for at := range 4 {
				if at < came {
					ops = append(ops, answered(by(at%2, c), first, at, 9))
				} else {
					ops = append(ops, answered(by(at%2, c), then, at, 9))
				}
			}
			wantLegal(t, came == 1, s, ops...)
			for at := range ops {
				ops[at].Began, ops[at].Ended = 10*at, 10*at+10
			}
			wantLegal(t, came == 1, s, ops...)
			ops[0], ops[1] = ops[1], ops[0]
			ops[0].Began, ops[1].Began = 0, 10
			ops[0].Ended, ops[1].Ended = 10, 20
			wantLegal(t, false, s, ops...)
		}
	}
}
