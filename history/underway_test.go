package history_test

import (
	"testing"

	"concourse/api"
)

// P25.1: what has not ended stands in the row where an answer needs it, and there alone.
func TestUnderWayThatMustStand(t *testing.T) {
	s := aState(t)
	for _, one := range []struct {
		under api.Call
		seen  api.Op
	}{
		{by(1, create("/n")), answered(stat("/n"), api.Result{}, 5, 6)},
		{by(1, mkdir("/n")), answered(stat("/n"), api.Result{Dir: true}, 5, 6)},
		{by(1, mkdir("/n")), op(create("/n/x"), 0, 5, 6)},
		{by(1, opening("/a")), op(by(1, fsync(1)), 0, 5, 6)},
		{by(1, closing(0)), op(by(1, fsync(0)), api.EBADF, 5, 6)},
		{by(1, write(0, 5, "!")), answered(by(1, read(0, 0, 9)), api.Result{Data: "bytes!"}, 5, 6)},
		{by(1, truncate(0, 2)), answered(by(1, size(0)), api.Result{Num: 2}, 5, 6)},
		{by(1, link("/a", "/n")), answered(links("/a"), api.Result{Num: 3}, 5, 6)},
		{by(1, unlink("/a")), answered(links("/d/a"), api.Result{Num: 1}, 5, 6)},
		{by(1, rmdir("/e")), op(list("/e"), api.ENOENT, 5, 6)},
		{by(1, rename("/d", "/e/d")), answered(list("/e"), api.Result{Names: []string{"d"}}, 5, 6)},
	} {
		for began := range 9 {
			inAnyList([]api.Op{one.seen, going(one.under, began)}, func(ops []api.Op) { wantLegal(t, began < 6, s, ops...) })
		}
		wantLegal(t, false, s, one.seen)
		two := going(one.under, 2)
		two.Call.Path, two.Call.Fd, two.Call.Path2 = "/other/way", 3, "/else"
		wantLegal(t, false, s, one.seen, two)
	}
}

// P25.1: what has not ended does not stand where an answer would not be so behind it.
func TestUnderWayThatMustNotStand(t *testing.T) {
	s := aState(t)
	for _, one := range []struct {
		under api.Call
		seen  api.Op
	}{
		{by(1, create("/n")), op(stat("/n"), api.ENOENT, 5, 6)},
		{by(1, unlink("/a")), answered(links("/a"), api.Result{Num: 2}, 5, 6)},
		{by(1, write(0, 0, "B")), answered(by(1, read(0, 0, 1)), api.Result{Data: "b"}, 5, 6)},
		{by(1, rename("/b", "/n")), answered(list("/d"), api.Result{Names: []string{"a", "f"}}, 5, 6)},
		{by(1, closing(0)), op(by(1, fsync(0)), 0, 5, 6)},
		{by(1, opening("/a")), op(by(1, fsync(1)), api.EBADF, 5, 6)},
	} {
		for began := range 9 {
			inAnyList([]api.Op{one.seen, going(one.under, began)}, func(ops []api.Op) { wantLegal(t, true, s, ops...) })
		}
	}
}

// P25.1: one that has not ended may stand between two answers, and then stands there for all that follow.
func TestUnderWayBetween(t *testing.T) {
	s := newState(t, 3)
	not, is := op(stat("/n"), api.ENOENT, 1, 3), answered(stat("/n"), api.Result{}, 3, 5)
	under := going(by(1, create("/n")), 0)
	for began := range 7 {
		under.Began = began
		wantLegal(t, began < 5, s, not, is, under)
	}
	not, is = op(stat("/n"), api.ENOENT, 3, 5), answered(stat("/n"), api.Result{}, 1, 3)
	for began := range 7 {
		under.Began = began
		wantLegal(t, false, s, not, is, under)
		wantLegal(t, began < 3, s, not, is, under, going(by(2, unlink("/n")), began))
		wantLegal(t, began < 5, s, not, is, going(by(1, create("/n")), 0), going(by(2, unlink("/n")), began))
		wantLegal(t, began < 3, s, not, is, going(by(1, create("/n")), began), going(by(2, unlink("/n")), 0))
	}
}

// P25.1: several that have not ended stand in the row in which they are needed, and only those that are.
func TestSeveralUnderWay(t *testing.T) {
	s := newState(t, 3)
	all := []api.Op{going(mkdir("/d"), 0), going(by(1, mkdir("/d/d")), 0), going(by(2, create("/d/d/f")), 0), op(unlink("/d/d/f"), 0, 3, 4)}
	inAnyList(all, func(ops []api.Op) { wantLegal(t, true, s, ops...) })
	for at := range 3 {
		late := append([]api.Op(nil), all...)
		late[at].Began = 4
		inAnyList(late, func(ops []api.Op) { wantLegal(t, false, s, ops...) })
		late[at].Began = 3
		inAnyList(late, func(ops []api.Op) { wantLegal(t, true, s, ops...) })
		less := append(append([]api.Op(nil), all[:at]...), all[at+1:]...)
		inAnyList(less, func(ops []api.Op) { wantLegal(t, false, s, ops...) })
	}
	none := []api.Op{going(create("/a"), 0), going(by(1, create("/b")), 0), going(by(2, create("/c")), 0)}
	for _, names := range [][]string{{}, {"a"}, {"b"}, {"c"}, {"a", "b"}, {"a", "c"}, {"b", "c"}, {"a", "b", "c"}} {
		wantLegal(t, true, s, append(none, answered(list("/"), api.Result{Names: names}, 0, 9))...)
	}
	for _, names := range [][]string{{"b", "a"}, {"d"}, {"a", "a"}, {"a", "b", "c", "d"}} {
		wantLegal(t, false, s, append(none, answered(list("/"), api.Result{Names: names}, 0, 9))...)
	}
}

// P25.1: an Open that has not ended has the least descriptor that is free, where it stands.
func TestUnderWayOpens(t *testing.T) {
	s := aState(t)
	for fd := range 4 {
		wantLegal(t, fd == 0, s, going(by(2, opening("/a")), 0), op(by(2, fsync(fd)), 0, 1, 2))
		wantLegal(t, fd <= 1, s, going(by(2, opening("/a")), 0), going(by(2, opening("/a")), 1), op(by(2, fsync(fd)), 0, 1, 2))
		wantLegal(t, fd != 3, s, going(opening("/a"), 0), op(fsync(fd), 0, 1, 2))
		wantLegal(t, fd != 0, s, going(by(1, opening("/b")), 0), answered(by(1, opening("/a")), api.Result{Fd: fd}, 0, 9))
		last := do(t, s, by(2, opening("/a")))
		last.Open[len(last.Open)-1].Fd = fd
		wantEnds(t, fd == 0, s, last, going(by(2, opening("/a")), 0))
		wantEnds(t, true, s, last, answered(by(2, opening("/a")), api.Result{Fd: fd}, 0, 1))
	}
	ops := []api.Op{going(by(1, opening("/b")), 0), answered(by(1, opening("/a")), api.Result{Fd: 2}, 0, 9), op(by(1, fsync(3)), 0, 9, 11)}
	wantLegal(t, false, s, ops...)
	wantLegal(t, true, s, append(ops, going(by(1, opening("/b")), 4))...)
	wantLegal(t, true, s, append(ops, going(by(1, opening("/b")), 10))...)
	wantLegal(t, false, s, append(ops, going(by(1, opening("/b")), 11))...)
	wantLegal(t, false, s, append(ops, going(by(2, opening("/b")), 0))...)
}

// P25.1: one that has not ended may be refused as well, and then turns nothing.
func TestUnderWayThatIsRefused(t *testing.T) {
	s := aState(t)
	for _, c := range everyCall() {
		under := going(by(c.Core, c), 0)
		wantLegal(t, true, s, under)
		wantLegal(t, true, s, under, op(by(2, syncing()), 0, 1, 2))
		wantEnds(t, true, s, s, under)
	}
	wantLegal(t, false, s, going(by(1, create("/a/x")), 0), op(stat("/a/x"), 0, 1, 2))
	wantLegal(t, false, s, going(by(1, rmdir("/d")), 0), op(stat("/d"), api.ENOENT, 1, 2))
	wantLegal(t, true, s, going(by(1, rmdir("/d")), 0), going(unlink("/d/f"), 1), going(unlink("/d/a"), 1), op(stat("/d"), api.ENOENT, 1, 2))
}

// P25.1: what has not ended holds nothing back, however early it began.
func TestUnderWayHoldsNothingBack(t *testing.T) {
	s := newState(t, 2)
	ops := []api.Op{going(by(1, create("/n")), 0)}
	for at := range 8 {
		ops = append(ops, op(stat("/n"), api.ENOENT, 2*at+1, 2*at+2))
	}
	wantLegal(t, true, s, append(ops, answered(stat("/n"), api.Result{}, 100, 101))...)
	wantLegal(t, true, s, append(ops, op(stat("/n"), api.ENOENT, 100, 101))...)
	wantLegal(t, true, s, append(ops, op(create("/n"), 0, 100, 101))...)
	wantLegal(t, true, s, append(ops, op(create("/n"), api.EEXIST, 100, 101))...)
	ops[0].Began = 101
	wantLegal(t, false, s, append(ops, op(create("/n"), api.EEXIST, 100, 101))...)
	ops[0].Began = 100
	wantLegal(t, true, s, append(ops, op(create("/n"), api.EEXIST, 100, 101))...)
}
