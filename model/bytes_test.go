package model_test

import (
	"math"
	"strings"
	"testing"

	"concourse/api"
)

// withFile gives a state in which /f has this data, and core 0 has it open as 0.
func withFile(t *testing.T, data string) *desk {
	t.Helper()
	d := newDesk(t, 2)
	d.ok(create("/f"))
	d.opens(0, "/f", 0)
	d.want(write(0, 0, data), api.Result{Num: len(data)})
	d.holds(0, 0, data)
	return d
}

// P13.2: each core has MaxFds descriptors of its own, and gets the least that is free.
func TestOpenAndClose(t *testing.T) {
	d := aTree(t)
	for fd := range 4 {
		d.opens(0, []string{"/a", "/d/e/f/file"}[fd%2], fd)
		if fd < 2 {
			d.opens(1, "/d/a", fd)
		}
	}
	d.code(api.EMFILE, on(api.CallOpen, "/a"), on(api.CallOpen, "/d/e/b"))
	d.code(api.EISDIR, on(api.CallOpen, "/"), on(api.CallOpen, "/d/e"))
	d.code(api.ENOENT, on(api.CallOpen, "/x"), on(api.CallOpen, "/x/y"))
	d.code(api.ENOTDIR, on(api.CallOpen, "/a/x"))
	d.code(api.EINVAL, on(api.CallOpen, ""), on(api.CallOpen, "/a/"))
	d.code(api.ENAMETOOLONG, on(api.CallOpen, "/1234567890123"))
	d.opens(1, "/a", 2)
	d.ok(closing(2), closing(1))
	d.opens(0, "/a", 1)
	d.opens(0, "/a", 2)
	d.code(api.EMFILE, on(api.CallOpen, "/a"))
	d.ok(closing(0), closing(3), by(1, closing(0)))
	d.opens(1, "/a", 0)
	d.opens(0, "/a", 0)
	d.opens(0, "/a", 3)
}

// P13.2: a descriptor that the core has not, for each call that takes one, whatever else is wrong.
func TestNoSuchDescriptor(t *testing.T) {
	d := withFile(t, "data")
	kinds := []int{api.CallClose, api.CallRead, api.CallWrite, api.CallTruncate, api.CallSize, api.CallFsync}
	for _, fd := range []int{-1, 1, 3, 4, 5, -4, 8, 1 << 32, math.MinInt, math.MaxInt} {
		for _, kind := range kinds {
			d.code(api.EBADF, api.Call{Kind: kind, Fd: fd}, api.Call{Kind: kind, Fd: fd, Off: -1, Num: -1, Data: strings.Repeat("x", 257)})
		}
	}
	for _, kind := range kinds {
		d.code(api.EBADF, api.Call{Kind: kind, Core: 1, Path: "/f"})
		d.code(api.EBADF, api.Call{Kind: kind, Core: 1, Off: 256, Data: "x"})
	}
	d.opens(1, "/f", 0)
	d.opens(1, "/f", 1)
	for _, kind := range kinds {
		d.code(api.EBADF, api.Call{Kind: kind, Fd: 1})
	}
	d.ok(closing(0))
	for _, kind := range kinds {
		d.code(api.EBADF, api.Call{Kind: kind})
	}
	d.holds(1, 0, "data")
}

// P13.2: a file that is open without a name is there till its last Close, of whatever core.
func TestOpenWithoutAName(t *testing.T) {
	d := withFile(t, "held")
	d.opens(0, "/f", 1)
	d.opens(1, "/f", 0)
	d.ok(link("/f", "/g"), unlink("/f"), unlink("/g"))
	d.code(api.ENOENT, on(api.CallOpen, "/f"), link("/f", "/g"), on(api.CallLinks, "/g"))
	d.want(by(1, write(0, 4, " fast")), api.Result{Num: 5})
	d.holds(0, 1, "held fast")
	d.ok(create("/f"))
	d.want(on(api.CallStat, "/f"), api.Result{})
	d.ok(closing(1), closing(0))
	d.holds(1, 0, "held fast")
	d.ok(by(1, truncate(0, 4)), by(1, api.Call{Kind: api.CallFsync}))
	d.holds(1, 0, "held")
	if !d.has(2) {
		t.Error("gone while it is open")
	}
	d.ok(by(1, closing(0)))
	if d.has(2) || !d.has(10) {
		t.Errorf("behind its last Close: %s", show(d.s))
	}
}

// P13.2: a file that has a name stays behind its last Close.
func TestClosedWithAName(t *testing.T) {
	d := withFile(t, "stays")
	d.ok(link("/f", "/g"), unlink("/f"), closing(0))
	d.want(on(api.CallStat, "/g"), api.Result{Num: 5})
	d.opens(0, "/g", 0)
	d.holds(0, 0, "stays")
}

// P13.2: Read tells what is there, up to the file's end, and nothing behind it.
func TestRead(t *testing.T) {
	d := withFile(t, "0123456789")
	for _, one := range []struct {
		off, num int
		data     string
	}{
		{0, 0, ""}, {0, 1, "0"}, {0, 10, "0123456789"}, {0, 11, "0123456789"}, {0, 256, "0123456789"}, {3, 4, "3456"}, {3, 7, "3456789"}, {3, 8, "3456789"},
		{9, 1, "9"}, {9, 256, "9"}, {10, 0, ""}, {10, 1, ""}, {10, 256, ""}, {11, 5, ""}, {255, 256, ""}, {256, 256, ""}, {256, 0, ""}, {5, 0, ""},
	} {
		d.want(read(0, one.off, one.num), api.Result{Data: one.data})
	}
	for _, wrong := range []int{-1, 257, 1 << 32, math.MinInt, math.MaxInt, math.MaxInt - 255} {
		d.code(api.EINVAL, read(0, wrong, 0), read(0, 0, wrong), read(0, wrong, wrong), read(0, 256, wrong), read(0, wrong, 256))
	}
	all := strings.Repeat("\x00\xff日", 51)
	full := withFile(t, all+"z")
	full.want(read(0, 255, 1), api.Result{Data: "z"})
	full.want(read(0, 255, 256), api.Result{Data: "z"})
	full.want(read(0, 256, 1), api.Result{})
	full.want(read(0, 0, 255), api.Result{Data: all})
}

// P13.2: Write puts bytes where they shall stand, over what was there and behind it, 0 between.
func TestWrite(t *testing.T) {
	for _, one := range []struct {
		was  string
		off  int
		data string
		is   string
	}{
		{"", 0, "ab", "ab"}, {"", 3, "ab", "\x00\x00\x00ab"}, {"0123", 0, "ab", "ab23"}, {"0123", 1, "ab", "0ab3"}, {"0123", 2, "ab", "01ab"},
		{"0123", 3, "ab", "012ab"}, {"0123", 4, "ab", "0123ab"}, {"0123", 5, "ab", "0123\x00ab"}, {"0123", 0, "abcd", "abcd"}, {"0123", 0, "abcde", "abcde"},
		{"0123", 0, "\x00", "\x00123"}, {"", 0, "\xff日\x00", "\xff日\x00"}, {"0123", 0, "", "0123"}, {"0123", 4, "", "0123"}, {"0123", 9, "", "0123"},
		{"0123", 256, "", "0123"}, {"", 256, "", ""}, {"", 0, "", ""}, {"0", 255, "z", "0" + strings.Repeat("\x00", 254) + "z"},
	} {
		d := withFile(t, one.was)
		d.want(write(0, one.off, one.data), api.Result{Num: len(one.data)})
		d.holds(0, 0, one.is)
	}
}

// P13.2: how far a Write may reach, and which code it is beyond that.
func TestWriteLimits(t *testing.T) {
	bytes := strings.Repeat("0123456789abcdef", 17)
	d := withFile(t, "here")
	d.code(api.EINVAL, write(0, -1, ""), write(0, 257, ""), write(0, 257, "x"), write(0, math.MinInt, "x"), write(0, math.MaxInt, "x"), write(0, math.MaxInt, ""))
	d.code(api.EINVAL, write(0, 0, bytes[:257]), write(0, 256, bytes[:257]), write(0, 1, bytes), write(0, -1, bytes), write(0, 257, bytes))
	d.code(api.ENOSPC, write(0, 256, "x"), write(0, 255, "xy"), write(0, 1, bytes[:256]), write(0, 256, bytes[:256]), write(0, 128, bytes[:129]))
	d.holds(0, 0, "here")
	d.want(write(0, 128, bytes[:128]), api.Result{Num: 128})
	d.want(write(0, 255, "z"), api.Result{Num: 1})
	d.holds(0, 0, "here"+strings.Repeat("\x00", 124)+bytes[:127]+"z")
	d.want(write(0, 0, bytes[:256]), api.Result{Num: 256})
	d.holds(0, 0, bytes[:256])
	d.code(api.ENOSPC, write(0, 256, "x"), write(0, 1, bytes[:256]))
	d.want(write(0, 256, ""), api.Result{})
}

// P13.2: Truncate cuts and lengthens; what it cut off does not come back.
func TestTruncate(t *testing.T) {
	d := withFile(t, "0123456789")
	d.ok(truncate(0, 10))
	d.holds(0, 0, "0123456789")
	d.ok(truncate(0, 4))
	d.holds(0, 0, "0123")
	d.ok(truncate(0, 6))
	d.holds(0, 0, "0123\x00\x00")
	d.ok(truncate(0, 256))
	d.holds(0, 0, "0123"+strings.Repeat("\x00", 252))
	d.code(api.EINVAL, truncate(0, -1), truncate(0, 257), truncate(0, math.MinInt), truncate(0, math.MaxInt), truncate(0, 1<<32))
	d.ok(truncate(0, 1))
	d.want(write(0, 3, "x"), api.Result{Num: 1})
	d.holds(0, 0, "0\x00\x00x")
	d.ok(truncate(0, 0))
	d.holds(0, 0, "")
	d.want(api.Call{Kind: api.CallTruncate, Num: 2, Off: -7, Data: "x", Path: "?"}, api.Result{})
	d.holds(0, 0, "\x00\x00")
}

// P13.2: all descriptors and names of one file have its bytes, and no other file's.
func TestOneFilesBytes(t *testing.T) {
	d := withFile(t, "first")
	d.ok(create("/g"), link("/f", "/h"))
	d.opens(1, "/g", 0)
	d.opens(1, "/h", 1)
	d.want(by(1, write(0, 0, "second file")), api.Result{Num: 11})
	d.want(by(1, write(1, 5, " file")), api.Result{Num: 5})
	d.holds(0, 0, "first file")
	d.holds(1, 0, "second file")
	d.ok(truncate(0, 2))
	d.holds(1, 1, "fi")
	d.want(on(api.CallStat, "/h"), api.Result{Num: 2})
	d.want(on(api.CallStat, "/g"), api.Result{Num: 11})
	d.ok(rename("/h", "/i"))
	d.holds(1, 1, "fi")
}
