package depend_test

import (
	"strings"
	"testing"

	"concourse/api"
	"concourse/depend"
)

// deep gives a state with directories /d (2), /d/e (10), /d/e/f (18) of core 0, files /a (3), /d/b (11) and /d/e/f/c (19)
// of core 1, and /e (4), a directory of core 2.
func deep(t *testing.T) *desk {
	t.Helper()
	d := newDesk(t, 3)
	d.ok(mkdir("/d"), mkdir("/d/e"), mkdir("/d/e/f"), by(1, create("/a")), by(1, create("/d/b")), by(1, create("/d/e/f/c")), by(2, mkdir("/e")))
	return d
}

// P15.1: each kind of call that has keys, at the root and below it.
func TestKeysOfEachKind(t *testing.T) {
	d := newDesk(t, 2)
	d.want(mkdir("/d"), "-1: 1:. 1:/5 2:")
	d.want(by(1, create("/d/a")), "-2: 1:. 2:. 2:/2 3:")
	d.want(create("/b"), "-1: 1:. 1:/3 10:")
	d.want(by(1, mkdir("/d/e")), "-2: 1:. 2:. 2:/6 11:")
	d.want(opening("/d/a"), "-1: 1:. 2:. 3:")
	d.want(by(1, opening("/b")), "-2: 1:. 10:")
	d.want(write(0, 0, "x"), "-1: 3:")
	d.want(by(1, truncate(0, 7)), "-2: 10:")
	d.want(link("/d/a", "/c"), "-1: 1:. 1:/4 2:. 3:")
	d.want(rename("/c", "/f"), "-1: 1:. 1:/4 1:/7 3:")
	d.want(unlink("/d/a"), "-1: 1:. 2:. 2:/2 3:")
	d.want(by(1, rmdir("/d/e")), "-2: 1:. 2:. 2:/6 11:")
	d.want(rmdir("/d"), "-1: 1:. 1:/5 2:")
	d.want(closing(0), "-1: 3:")
	d.want(by(1, closing(0)), "-2: 10:")
}

// P15.1: a path of one name goes through the root alone, one of MaxDepth names through as many directories.
func TestKeysOfShortAndLongPaths(t *testing.T) {
	d := deep(t)
	d.want(create("/x"), "-1: 1:. 1:/1 26:")
	d.want(create("/d/e/f/x"), "-1: 1:. 2:. 10:. 18:. 18:/1 34:")
	d.want(by(2, mkdir("/d/e/f/y")), "-3: 1:. 2:. 10:. 12: 18:. 18:/2")
	d.want(opening("/a"), "-1: 1:. 3:")
	d.want(opening("/d/e/f/c"), "-1: 1:. 2:. 10:. 18:. 19:")
	d.want(unlink("/d/e/f/c"), "-1: 1:. 2:. 10:. 18:. 18:/4 19:")
	d.want(rmdir("/d/e/f/y"), "-1: 1:. 2:. 10:. 12: 18:. 18:/2")
	d.want(link("/d/e/f/x", "/z"), "-1: 1:. 1:/3 2:. 10:. 18:. 34:")
	d.want(link("/z", "/d/e/f/z"), "-1: 1:. 2:. 10:. 18:. 18:/3 34:")
	d.want(rmdir("/e"), "-1: 1:. 1:/6 4:")
	d.none(api.ENAMETOOLONG, create("/d/e/f/x/y"), rename("/a", "/d/e/f/x/y"))
}

// P15.1: two paths through the same directories, and two that part, each directory once.
func TestKeysOfTwoPaths(t *testing.T) {
	d := deep(t)
	d.want(link("/d/e/f/c", "/d/e/f/x"), "-1: 1:. 2:. 10:. 18:. 18:/1 19:")
	d.want(link("/d/e/f/c", "/d/e/x"), "-1: 1:. 2:. 10:. 10:/1 18:. 19:")
	d.want(link("/d/e/f/c", "/e/x"), "-1: 1:. 2:. 4:. 4:/1 10:. 18:. 19:")
	d.want(link("/a", "/e/y"), "-1: 1:. 3: 4:. 4:/2")
	d.want(link("/e/y", "/y"), "-1: 1:. 1:/2 3: 4:.")
	d.want(rename("/e/x", "/d/e/f/y"), "-1: 1:. 2:. 4:. 4:/1 10:. 18:. 18:/2 19:")
	d.want(rename("/d/e/f/y", "/d/e/f/z"), "-1: 1:. 2:. 10:. 18:. 18:/2 18:/3 19:")
}

// P15.1: a Rename within a directory and from one into another, of a file and of a directory; what is in a directory
// that is renamed is not told.
func TestKeysOfRename(t *testing.T) {
	d := deep(t)
	d.want(rename("/a", "/b"), "-1: 1:. 1:/2 1:/3 3:")
	d.want(rename("/d/b", "/e/b"), "-1: 1:. 2:. 2:/3 4:. 4:/3 11:")
	d.want(rename("/d", "/x"), "-1: 1:. 1:/1 1:/5 2:")
	d.want(rename("/x/e", "/e/x"), "-1: 1:. 2:. 2:/6 4:. 4:/1 10:")
	d.want(rename("/x", "/e/x/d"), "-1: 1:. 1:/1 2: 4:. 10:. 10:/5")
	d.want(rename("/e/x/f", "/f"), "-1: 1:. 1:/7 4:. 10:. 10:/7 18:")
	d.want(by(2, opening("/f/c")), "-3: 1:. 18:. 19:")
	d.none(api.EINVAL, rename("/e", "/e/x/e"), rename("/e", "/e/e"))
}

// P15.1: entries of one bucket have one key, those of unlike buckets a key each; the name that is told is the digit.
func TestKeysOfBuckets(t *testing.T) {
	d := newDesk(t, 1)
	d.want(create("/a"), "-1: 1:. 1:/2 2:")
	d.want(rename("/a", "/i"), "-1: 1:. 1:/2 2:")
	d.want(rename("/i", "/q"), "-1: 1:. 1:/2 2:")
	d.want(rename("/q", "/b"), "-1: 1:. 1:/2 1:/3 2:")
	d.want(link("/b", "/j"), "-1: 1:. 1:/3 2:")
	for _, one := range []string{"aé", "a日本", "12345678901", "...", "a b", "~"} {
		d.ok(link("/b", "/"+one), rename("/"+one, "/ "+one), unlink("/ "+one))
	}
}

// P15.1: a bucket's digit for each of the Buckets.
func TestKeysOfEveryBucket(t *testing.T) {
	d := newDesk(t, 1)
	for bucket, name := range []string{"g", "h", "a", "b", "c", "d", "e", "f"} {
		keys := depend.Keys(d.s, create("/"+name))
		if got, want := told(keys), "-1: 1:. 1:/"+string(rune('0'+bucket))+" 2:"; got != want {
			t.Errorf("%s: %s, want %s", name, got, want)
		}
	}
}

// P15.1: each core has a row of its own, and the numbers of its own inodes.
func TestKeysOfEachCore(t *testing.T) {
	d := newDesk(t, 8)
	want := []string{
		"-1: 1:. 1:/2 2:", "-2: 1:. 1:/3 3:", "-3: 1:. 1:/4 4:", "-4: 1:. 1:/5 5:",
		"-5: 1:. 1:/6 6:", "-6: 1:. 1:/7 7:", "-7: 1:. 1:/0 8:", "-8: 1:. 1:/1 9:",
	}
	for core, keys := range want {
		d.want(by(core, create("/"+string(rune('a'+core)))), keys)
	}
	d.want(by(7, create("/z")), "-8: 1:. 1:/3 17:")
	d.want(by(3, opening("/z")), "-4: 1:. 17:")
	d.want(by(5, opening("/z")), "-6: 1:. 17:")
	d.want(by(3, write(0, 3, "z")), "-4: 17:")
	d.want(by(5, closing(0)), "-6: 17:")
	d.want(by(0, unlink("/z")), "-1: 1:. 1:/3 17:")
	for range 31 {
		d.ok(by(4, mkdir("/y")), rmdir("/y"))
	}
	d.none(api.ENOSPC, by(4, mkdir("/y")))
	for range 30 {
		d.ok(by(7, mkdir("/y")), rmdir("/y"))
	}
	d.none(api.ENOSPC, by(7, mkdir("/y")))
}

// P15.1: keys stand by number, not by its digits, the core's own row first; the greatest number too.
func TestKeysByNumber(t *testing.T) {
	d := newDesk(t, 8)
	for range 30 {
		d.ok(by(7, mkdir("/d")), rmdir("/d"))
	}
	d.want(by(7, mkdir("/d")), "-8: 1:. 1:/5 249:")
	d.want(by(7, mkdir("/d/e")), "-8: 1:. 249:. 249:/6 257:")
	d.want(by(1, mkdir("/d/e/a")), "-2: 1:. 3: 249:. 257:. 257:/2")
	d.want(by(6, create("/d/e/a/b")), "-7: 1:. 3:. 3:/3 8: 249:. 257:.")
	d.want(rename("/d/e/a/b", "/d/e/b"), "-1: 1:. 3:. 3:/3 8: 249:. 257:. 257:/3")
}

// P15.1: a Write of some bytes has keys wherever it stands, one of none has none; a Truncate always has.
func TestKeysOfBytes(t *testing.T) {
	d := newDesk(t, 2)
	d.ok(create("/a"), by(1, opening("/a")))
	d.none(api.CodeOK, by(1, write(0, 0, "")), by(1, write(0, 256, "")))
	d.want(by(1, write(0, 0, "\x00")), "-2: 2:")
	d.want(by(1, write(0, 0, "\x00")), "-2: 2:")
	d.want(by(1, write(0, 255, "x")), "-2: 2:")
	d.want(by(1, write(0, 0, strings.Repeat("x", 256))), "-2: 2:")
	d.want(by(1, truncate(0, 256)), "-2: 2:")
	d.want(by(1, truncate(0, 0)), "-2: 2:")
	d.want(by(1, truncate(0, 0)), "-2: 2:")
	d.none(api.ENOSPC, by(1, write(0, 256, "x")))
	d.none(api.EINVAL, by(1, write(0, 257, "")), by(1, truncate(0, 257)))
	d.none(api.EBADF, write(0, 0, "x"), truncate(0, 0), closing(0))
}

// P15.1: a file that is gone but for its descriptors is told by these, the last Close too.
func TestKeysWithoutEntries(t *testing.T) {
	d := newDesk(t, 2)
	d.ok(create("/a"), create("/b"), opening("/b"), opening("/a"), by(1, opening("/a")))
	d.want(unlink("/a"), "-1: 1:. 1:/2 2:")
	d.ok(create("/a"))
	d.want(write(1, 0, "x"), "-1: 2:")
	d.want(by(1, truncate(0, 9)), "-2: 2:")
	d.want(closing(1), "-1: 2:")
	d.want(by(1, write(0, 0, "x")), "-2: 2:")
	d.want(by(1, closing(0)), "-2: 2:")
	d.none(api.EBADF, by(1, closing(0)), by(1, write(0, 0, "x")), closing(1))
	d.want(closing(0), "-1: 10:")
	d.want(opening("/a"), "-1: 1:. 18:")
}

// P15.1: a descriptor tells its own file, whichever the others are for.
func TestKeysOfDescriptors(t *testing.T) {
	d := newDesk(t, 2)
	for at, name := range []string{"/a", "/b", "/c", "/d"} {
		d.ok(create(name), opening(name), by(1, opening([]string{"/a", "/a", "/b", "/a"}[at])))
	}
	for fd, want := range []string{"-1: 2:", "-1: 10:", "-1: 18:", "-1: 26:"} {
		d.want(write(fd, fd, "x"), want)
		d.want(truncate(fd, fd), want)
	}
	for fd, want := range []string{"-2: 2:", "-2: 2:", "-2: 10:", "-2: 2:"} {
		d.want(by(1, write(fd, 1, "x")), want)
		d.want(by(1, closing(fd)), want)
	}
	d.want(closing(2), "-1: 18:")
	d.want(opening("/a"), "-1: 1:. 2:")
	d.want(truncate(2, 0), "-1: 2:")
}

// P15.1: fields that a kind of call does not use have no keys.
func TestKeysOfUnusedFields(t *testing.T) {
	d := deep(t)
	d.ok(opening("/a"))
	fill := func(c api.Call) api.Call {
		if c.Path == "" {
			c.Path = "/d/e/f/c"
		}
		if c.Path2 == "" {
			c.Path2 = "/d/e/x"
		}
		if c.Data == "" {
			c.Data = "data"
		}
		c.Off, c.Num = 7, 9
		return c
	}
	d.want(fill(truncate(0, 0)), "-1: 3:")
	d.want(fill(write(0, 0, "x")), "-1: 3:")
	d.want(fill(create("/x")), "-1: 1:. 1:/1 26:")
	d.want(fill(mkdir("/y")), "-1: 1:. 1:/2 34:")
	d.want(fill(opening("/x")), "-1: 1:. 26:")
	d.want(fill(unlink("/x")), "-1: 1:. 1:/1 26:")
	d.want(fill(rmdir("/y")), "-1: 1:. 1:/2 34:")
	d.want(fill(closing(0)), "-1: 3:")
	d.none(api.CodeOK, fill(api.Call{Kind: api.CallSync}), fill(list("/d")), fill(api.Call{Kind: api.CallFsync, Fd: 1}))
}
