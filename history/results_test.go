package history_test

import (
	"slices"
	"testing"

	"concourse/api"
	"concourse/model"
)

// turnedResults gives a result with each single field turned; Fd stays.
func turnedResults(r api.Result) []api.Result {
	var all []api.Result
	add := func(turn func(r *api.Result)) {
		one := r
		one.Names = slices.Clone(r.Names)
		turn(&one)
		all = append(all, one)
	}
	for code := -1; code <= 11; code++ {
		if code != r.Code {
			add(func(r *api.Result) { r.Code = code })
		}
	}
	for _, by := range []int{-1, 1, 8, 1 << 32} {
		add(func(r *api.Result) { r.Num += by })
	}
	add(func(r *api.Result) { r.Dir = !r.Dir })
	add(func(r *api.Result) { r.Data += "x" })
	add(func(r *api.Result) { r.Data = "\x00" + r.Data })
	add(func(r *api.Result) { r.Names = append([]string{"0"}, r.Names...) })
	add(func(r *api.Result) { r.Names = append(r.Names, "") })
	if r.Data != "" {
		add(func(r *api.Result) { r.Data = "" })
		add(func(r *api.Result) { r.Data = r.Data[1:] })
		add(func(r *api.Result) { r.Data = "?" + r.Data[1:] })
	}
	if len(r.Names) > 0 {
		add(func(r *api.Result) { r.Names = nil })
		add(func(r *api.Result) { r.Names = r.Names[1:] })
		add(func(r *api.Result) { r.Names[0] += "x" })
	}
	if len(r.Names) > 1 {
		add(func(r *api.Result) { r.Names[0], r.Names[1] = r.Names[1], r.Names[0] })
	}
	return all
}

// everyCall are calls of each kind that answer CodeOK and other codes at aState.
func everyCall() []api.Call {
	return []api.Call{
		create("/n"), create("/a"), create("/"), create("/d/n"), mkdir("/d/n"), mkdir("/x/y"), mkdir("/d"), opening("/d"), opening("/x"), opening("/a"), by(2, opening("/d/f")), by(1, opening("/a/x")),
		closing(0), closing(2), closing(1), by(2, closing(0)), read(0, 1, 9), read(2, 0, 0), read(0, 99, 9), read(0, -1, 0), read(3, 0, 1), by(1, read(0, 0, 256)),
		write(0, 9, "more"), write(0, 9, ""), write(2, 256, "x"), write(1, 0, ""), write(0, 0, "0123456789"), by(1, write(0, -1, "")),
		truncate(0, 2), truncate(2, 256), truncate(0, 10), truncate(0, 257), truncate(3, 0), size(0), size(2), by(1, size(0)), size(1),
		link("/a", "/z"), link("/d", "/z"), link("/a", "/d/f"), link("/b", "/x/y"), unlink("/a"), unlink("/d/f"), unlink("/d"), unlink("/u"),
		rmdir("/d"), rmdir("/e"), rmdir("/a"), rmdir("/"), rename("/a", "/z"), rename("/d", "/e/d"), rename("/d", "/d/x"), rename("/a", "/b"), rename("/u", "/z"),
		list("/"), list("/d"), list("/e"), list("/a"), stat("/"), stat("/a"), stat("/d"), stat("/x"), stat("/1234567890123"), links("/a"), links("/b"), links("/d"), links("/x"),
		fsync(0), fsync(3), by(1, fsync(0)), syncing(), by(2, syncing()),
	}
}

// P25.1: of each kind of call what the model answers is legal; with any field turned it is not, alone or beside others.
func TestResultsOfEachKind(t *testing.T) {
	s := aState(t)
	met := [kinds][2]bool{}
	for _, c := range everyCall() {
		behind, r := model.Do(s, c)
		met[c.Kind][min(r.Code, 1)] = true
		others := []api.Op{answered(stat("/e"), api.Result{Dir: true}, 0, 60), op(by(2, rename("/b", "/c")), 0, 30, 40), going(by(1, create("/g")), 8)}
		wantLegal(t, true, s, answered(c, r, 0, 20))
		wantEnds(t, true, s, behind, answered(c, r, 0, 20))
		wantLegal(t, true, s, append(others, answered(c, r, 0, 20))...)
		for _, turned := range turnedResults(r) {
			wantLegal(t, false, s, answered(c, turned, 0, 20))
			wantEnds(t, false, s, behind, answered(c, turned, 0, 20))
			wantLegal(t, false, s, append(others, answered(c, turned, 0, 20))...)
		}
		for fd := -1; fd < 6; fd++ {
			turned := r
			turned.Fd = fd
			if c.Kind != api.CallOpen {
				wantLegal(t, fd == 0, s, answered(c, turned, 0, 20))
			}
		}
	}
	for kind, both := range met {
		if !both[0] || !both[1] && kind != api.CallSync {
			t.Errorf("kind %d: answered CodeOK %t, another code %t", kind, both[0], both[1])
		}
	}
}

// P25.1: a list's names and nil are one, where there are none.
func TestNoNames(t *testing.T) {
	s := aState(t)
	for _, names := range [][]string{nil, {}, make([]string, 0, 3)} {
		wantLegal(t, true, s, answered(list("/e"), api.Result{Names: names}, 0, 1))
		wantLegal(t, true, s, answered(stat("/e"), api.Result{Dir: true, Names: names}, 0, 1))
		wantLegal(t, true, s, api.Op{Call: create("/n"), Result: api.Result{Names: names}, Ended: -1})
		wantLegal(t, false, s, answered(list("/d"), api.Result{Names: names}, 0, 1))
	}
}

// P25.1: an Open may answer each descriptor that is free of its core, and none that is not.
func TestOpensAnyFree(t *testing.T) {
	s := aState(t)
	for core, has := range [][]int{{0, 2}, {0}, {}} {
		for fd := -2; fd < 7; fd++ {
			free := fd >= 0 && fd < 4 && !slices.Contains(has, fd)
			o := answered(by(core, opening("/d/f")), api.Result{Fd: fd}, 0, 1)
			wantLegal(t, free, s, o)
			wantLegal(t, false, s, answered(by(core, opening("/d/f")), api.Result{Fd: fd, Code: api.EMFILE}, 0, 1))
			wantLegal(t, false, s, answered(by(core, opening("/x")), api.Result{Fd: fd}, 0, 1))
			wantLegal(t, fd == 0, s, answered(by(core, opening("/x")), api.Result{Fd: fd, Code: api.ENOENT}, 0, 1))
			if !free {
				continue
			}
			for later := range 4 {
				code := api.EBADF
				if later == fd || slices.Contains(has, later) {
					code = 0
				}
				size := answered(by(core, truncate(later, 3)), api.Result{Code: code}, 2, 3)
				wantLegal(t, true, s, o, size)
				size.Result.Code = api.EBADF - code
				wantLegal(t, false, s, o, size)
			}
			other := by((core+1)%3, fsync(fd))
			_, r := model.Do(s, other)
			wantLegal(t, true, s, o, answered(other, r, 2, 3))
		}
	}
}

// P25.1: what an Open answered is the file that the descriptor is for, and is not free for the next one till it is closed.
func TestBehindAnOpen(t *testing.T) {
	s := aState(t)
	c := by(2, opening("/a"))
	first := answered(c, api.Result{Fd: 3}, 0, 1)
	wantLegal(t, true, s, first, answered(by(2, read(3, 2, 3)), api.Result{Data: "234"}, 1, 2))
	wantLegal(t, false, s, first, answered(by(2, read(3, 2, 3)), api.Result{Data: "tes"}, 1, 2))
	wantLegal(t, true, s, first, answered(by(2, size(3)), api.Result{Num: 10}, 1, 2))
	for fd := range 4 {
		wantLegal(t, fd != 3, s, first, answered(by(2, opening("/b")), api.Result{Fd: fd}, 1, 2))
		wantLegal(t, true, s, first, op(by(2, closing(3)), 0, 1, 2), answered(by(2, opening("/b")), api.Result{Fd: fd}, 2, 3))
		wantLegal(t, fd == 3, s, first, op(by(2, closing(fd)), 0, 1, 2))
		wantLegal(t, fd != 3, s, first, op(by(2, closing(fd)), api.EBADF, 1, 2))
	}
	four := []api.Op{first, answered(c, api.Result{Fd: 1}, 0, 1), answered(c, api.Result{Fd: 0}, 0, 1), answered(c, api.Result{Fd: 2}, 0, 1)}
	inAnyList(four, func(ops []api.Op) {
		wantLegal(t, true, s, ops...)
		wantLegal(t, true, s, append(ops, op(c, api.EMFILE, 0, 3))...)
	})
	wantLegal(t, false, s, append(four[1:], op(c, api.EMFILE, 0, 3))...)
	wantLegal(t, false, s, append(four[1:], op(c, api.EMFILE, 0, 3), going(c, 3))...)
	wantLegal(t, true, s, append(four[1:], op(c, api.EMFILE, 0, 3), going(c, 2))...)
	wantLegal(t, false, s, append(four[1:], first, first)...)
}

// P25.1: calls that are refused turn nothing: what is done beside them answers as without them.
func TestRefusedCalls(t *testing.T) {
	s := aState(t)
	var refused []api.Op
	for _, c := range everyCall() {
		if _, r := model.Do(s, c); r.Code != 0 {
			refused = append(refused, answered(c, r, 5, 6))
		}
	}
	for at := 0; at+9 < len(refused); at++ {
		ten := refused[at : at+10]
		wantLegal(t, true, s, ten...)
		wantEnds(t, true, s, s, ten...)
		wantEnds(t, false, s, do(t, s, create("/n")), ten...)
	}
	for _, o := range refused {
		wantLegal(t, true, s, o, op(by(2, create("/n")), 0, 6, 7), answered(list("/e"), api.Result{}, 0, 7))
		o.Result.Code = 0
		wantLegal(t, false, s, o)
	}
}
