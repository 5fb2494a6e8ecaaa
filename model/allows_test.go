package model_test

import (
	"math"
	"strconv"
	"testing"

	"concourse/api"
	"concourse/model"
)

// wantAllows fails unless Allows takes a result, and leaves this state.
func wantAllows(t *testing.T, s api.State, c api.Call, r api.Result, behind api.State) {
	t.Helper()
	if got, may := model.Allows(s, c, r); !may || show(got) != show(behind) {
		t.Errorf("%+v: %s: %t\n%swant\n%s", c, showResult(r), may, show(got), show(behind))
	}
}

// wantRefuses fails unless Allows does not take a result, and gives the state back.
func wantRefuses(t *testing.T, s api.State, c api.Call, r api.Result) {
	t.Helper()
	if got, may := model.Allows(s, c, r); may || show(got) != show(s) {
		t.Errorf("%+v: %s: %t\n%s", c, showResult(r), may, show(got))
	}
}

// turnedResults gives a result with each single field turned, Fd only if so asked.
func turnedResults(r api.Result, fd bool) []api.Result {
	var all []api.Result
	add := func(turn func(r *api.Result)) {
		one := r
		turn(&one)
		all = append(all, one)
	}
	for code := -1; code <= 11; code++ {
		if code != r.Code {
			add(func(r *api.Result) { r.Code = code })
		}
	}
	for _, step := range []int{-1, 1, 8, math.MinInt, math.MaxInt} {
		add(func(r *api.Result) { r.Num += step })
		if fd {
			add(func(r *api.Result) { r.Fd += step })
		}
	}
	add(func(r *api.Result) { r.Dir = !r.Dir })
	add(func(r *api.Result) { r.Data += "x" })
	add(func(r *api.Result) { r.Data = "\x00" + r.Data })
	add(func(r *api.Result) { r.Names = append([]string{"0"}, r.Names...) })
	add(func(r *api.Result) { r.Names = append(r.Names[:len(r.Names):len(r.Names)], "") })
	if r.Data != "" {
		add(func(r *api.Result) { r.Data = "" })
		add(func(r *api.Result) { r.Data = r.Data[1:] })
		add(func(r *api.Result) { r.Data = "?" + r.Data[1:] })
	}
	if len(r.Names) > 0 {
		add(func(r *api.Result) { r.Names = nil })
		add(func(r *api.Result) { r.Names = r.Names[1:] })
		add(func(r *api.Result) { r.Names = append([]string{r.Names[0] + "x"}, r.Names[1:]...) })
	}
	if len(r.Names) > 1 {
		add(func(r *api.Result) { r.Names = append([]string{r.Names[1], r.Names[0]}, r.Names[2:]...) })
	}
	return all
}

// everyCall are calls of core 0 of each kind, that answer CodeOK and other codes at aTree with /a open as 0.
func everyCall() []api.Call {
	return []api.Call{
		create("/n"), create("/a"), create("/"), mkdir("/d/n"), mkdir("/x/y"), on(api.CallOpen, "/d"), on(api.CallOpen, "/x"),
		closing(0), closing(1), read(0, 1, 9), read(0, 0, 0), read(0, 9, 9), read(0, -1, 0), write(0, 9, "more"), write(0, 9, ""), write(0, 256, "x"), write(1, 0, ""),
		truncate(0, 2), truncate(0, 256), truncate(0, 257), {Kind: api.CallSize}, {Kind: api.CallSize, Fd: 1}, link("/a", "/z"), link("/d", "/z"),
		unlink("/a"), unlink("/d/e/f/file"), unlink("/d"), rmdir("/d"), rmdir("/empty"), rename("/a", "/z"), rename("/d", "/D"), rename("/d", "/d/x"),
		on(api.CallList, "/"), on(api.CallList, "/empty"), on(api.CallList, "/a"), on(api.CallStat, "/"), on(api.CallStat, "/a"), on(api.CallStat, "/x"),
		on(api.CallLinks, "/a"), on(api.CallLinks, "/d"), {Kind: api.CallFsync}, {Kind: api.CallFsync, Fd: 3}, {Kind: api.CallSync},
		{Kind: 17}, {Kind: -1}, {Kind: api.CallSync, Core: 2}, {Kind: api.CallSync, Core: -1}, on(api.CallList, "/1234567890123"),
	}
}

// forEveryCall is aTree with an empty directory, and /a open as 0 of core 0 with some bytes.
func forEveryCall(t *testing.T) *desk {
	t.Helper()
	d := aTree(t)
	d.ok(mkdir("/empty"))
	d.opens(0, "/a", 0)
	d.want(write(0, 0, "01234"), api.Result{Num: 5})
	return d
}

// P13.3: of each kind of call Do's answer is allowed, and no other.
func TestAllowsWhatDoAnswers(t *testing.T) {
	d := forEveryCall(t)
	for _, c := range everyCall() {
		behind, r := model.Do(d.s, c)
		wantAllows(t, d.s, c, r, behind)
		for _, other := range turnedResults(r, true) {
			wantRefuses(t, d.s, c, other)
		}
	}
}

// P13.3: no names and nil are one.
func TestAllowsNoNames(t *testing.T) {
	d := forEveryCall(t)
	for _, c := range []api.Call{on(api.CallList, "/empty"), create("/n"), on(api.CallStat, "/")} {
		behind, r := model.Do(d.s, c)
		r.Names = []string{}
		wantAllows(t, d.s, c, r, behind)
		r.Names = nil
		wantAllows(t, d.s, c, r, behind)
	}
}

// P13.3: an Open may answer each descriptor that is free of its core, and none that is not.
func TestAllowsAnyFreeFd(t *testing.T) {
	c := by(1, on(api.CallOpen, "/d/a"))
	for has := range 16 {
		d := aTree(t)
		for fd := range 4 {
			d.opens(1, "/d/e/f/file", fd)
			d.opens(0, "/a", fd)
		}
		for fd := range 4 {
			if has>>fd&1 == 0 {
				d.ok(by(1, closing(fd)))
			}
		}
		for _, fd := range []int{-1, 0, 1, 2, 3, 4, 5, -4, 8, 1 << 32, math.MinInt, math.MaxInt} {
			r := api.Result{Fd: fd}
			if fd < 0 || fd > 3 || has>>fd&1 == 1 {
				wantRefuses(t, d.s, c, r)
				continue
			}
			w := copyWorld(d.w)
			w.do(c, fd)
			wantAllows(t, d.s, c, r, w.state())
			for _, other := range turnedResults(r, false) {
				wantRefuses(t, d.s, c, other)
			}
		}
		if has == 15 {
			wantAllows(t, d.s, c, api.Result{Code: api.EMFILE}, d.s)
			for _, other := range turnedResults(api.Result{Code: api.EMFILE}, true) {
				wantRefuses(t, d.s, c, other)
			}
		}
	}
}

// copyWorld gives a record of its own, but for the nodes, which it shares.
func copyWorld(w *world) *world {
	return &world{root: w.root, made: w.made, fds: append([][4]*node(nil), w.fds...)}
}

// P13.3: an Open that fails answers just Do's code; a descriptor that is free helps no other call.
func TestAllowsFdBesideACode(t *testing.T) {
	d := forEveryCall(t)
	for p, code := range map[string]int{"/d": api.EISDIR, "/": api.EISDIR, "/x": api.ENOENT, "/a/x": api.ENOTDIR, "x": api.EINVAL, "/1234567890123": api.ENAMETOOLONG} {
		c := on(api.CallOpen, p)
		wantAllows(t, d.s, c, api.Result{Code: code}, d.s)
		for fd := -1; fd < 5; fd++ {
			wantRefuses(t, d.s, c, api.Result{Fd: fd})
			if fd != 0 {
				wantRefuses(t, d.s, c, api.Result{Code: code, Fd: fd})
			}
		}
	}
	wantRefuses(t, d.s, api.Call{Kind: api.CallOpen, Core: 2, Path: "/a"}, api.Result{})
	wantRefuses(t, d.s, api.Call{Kind: api.CallOpen, Core: -1, Path: "/a"}, api.Result{Fd: 1})
	wantAllows(t, d.s, api.Call{Kind: api.CallOpen, Core: 2, Path: "/a"}, api.Result{Code: api.EINVAL}, d.s)
	for _, c := range everyCall() {
		for fd := 1; fd < 4; fd++ {
			_, r := model.Do(d.s, c)
			r.Fd = fd
			wantRefuses(t, d.s, c, r)
		}
	}
}

// P13.2, P13.3: behind an Open that took a descriptor of its choice the least that is free is the next.
func TestOpenBehindAllows(t *testing.T) {
	d := aTree(t)
	c := on(api.CallOpen, "/a")
	s, may := model.Allows(d.s, c, api.Result{Fd: 2})
	if !may {
		t.Fatal("2 is not allowed")
	}
	for _, want := range []int{0, 1, 3} {
		var r api.Result
		if s, r = model.Do(s, c); showResult(r) != showResult(api.Result{Fd: want}) {
			t.Errorf("%s, want %s", showResult(r), strconv.Itoa(want))
		}
	}
	if _, r := model.Do(s, c); r.Code != api.EMFILE {
		t.Error(showResult(r))
	}
}
