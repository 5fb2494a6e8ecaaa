package model_test

import (
	"strconv"
	"testing"

	"concourse/api"
)

// oneBucket gives so many names of one bucket.
func oneBucket(bucket, count int) []string {
	var names []string
	for n := 0; len(names) < count; n++ {
		if one := "n" + strconv.Itoa(n); plainBucket(one) == bucket {
			names = append(names, one)
		}
	}
	return names
}

// withBucket gives a state in which /d has so many names of a bucket, all of them one file's, which is /file too.
func withBucket(t *testing.T, bucket, count int) (*desk, []string) {
	t.Helper()
	d := newDesk(t, 2)
	d.ok(mkdir("/d"), create("/file"))
	names := oneBucket(bucket, 6)
	for _, one := range names[:count] {
		d.ok(link("/file", "/d/"+one))
	}
	return d, names
}

// P13.2: a bucket takes MaxSlots names, whoever brings them, and no more.
func TestFullBuckets(t *testing.T) {
	for bucket := range api.Buckets {
		bring := []api.Call{create("/d/"), mkdir("/d/"), link("/file", "/d/"), rename("/file", "/d/")}
		for _, c := range bring {
			d, names := withBucket(t, bucket, 3)
			in, other := c, c
			if c.Kind == api.CallLink || c.Kind == api.CallRename {
				in.Path2, other.Path2 = "/d/"+names[3], "/d/"+names[4]
			} else {
				in.Path, other.Path = "/d/"+names[3], "/d/"+names[4]
			}
			d.ok(in)
			if c.Kind == api.CallRename {
				other.Path = "/again"
				d.ok(create("/again"))
			}
			d.code(api.ENOSPC, other)
			d.ok(unlink("/d/" + names[0]))
			d.ok(other)
			d.look()
		}
	}
}

// P13.2: the other buckets of a directory whose bucket is full, and other directories, have room; all hold 32 names.
func TestBucketsBeside(t *testing.T) {
	d, names := withBucket(t, 3, 4)
	d.code(api.ENOSPC, create("/d/"+names[4]))
	d.ok(create("/"+names[4]), link("/file", "/"+names[0]))
	for bucket := range api.Buckets {
		if bucket != 3 {
			for _, one := range oneBucket(bucket, 4) {
				d.ok(link("/file", "/d/"+one))
			}
		}
		d.code(api.ENOSPC, mkdir("/d/"+oneBucket(bucket, 5)[4]))
	}
	if len(d.s.Inodes[1].Entries) != 32 {
		t.Errorf("%d names in /d", len(d.s.Inodes[1].Entries))
	}
}

// P13.2: a Rename within a full bucket goes on, one into it from elsewhere does not, even from a name that is there too.
func TestRenameIntoAFullBucket(t *testing.T) {
	d, names := withBucket(t, 5, 4)
	d.ok(rename("/d/"+names[1], "/d/"+names[4]))
	d.ok(rename("/d/"+names[4], "/d/"+names[1]))
	d.code(api.ENOSPC, rename("/file", "/d/"+names[4]))
	d.ok(create("/"+names[0]), mkdir("/e"), create("/e/"+names[1]), create("/e/"+names[5]))
	d.code(api.ENOSPC, rename("/"+names[0], "/d/"+names[5]), rename("/e/"+names[1], "/d/"+names[4]), rename("/e/"+names[5], "/d/"+names[5]))
	other := oneBucket(6, 5)
	d.ok(create("/d/" + other[0]))
	d.code(api.ENOSPC, rename("/d/"+other[0], "/d/"+names[4]))
	d.ok(rename("/d/"+names[0], "/d/"+other[1]))
	d.ok(rename("/d/"+other[0], "/d/"+names[4]))
	d.look()
}

// P13.2: EEXIST comes ahead of ENOSPC, and ENOSPC of the bucket of Path2's parent is no matter of Path's.
func TestFullAndThere(t *testing.T) {
	d, names := withBucket(t, 1, 4)
	at := "/d/" + names[0]
	d.code(api.EEXIST, create(at), mkdir(at), link("/file", at), rename("/file", at), rename("/d/"+names[1], at), rename(at, at))
	d.ok(rename(at, "/free"), link("/d/"+names[1], at))
	d.code(api.ENOSPC, link("/free", "/d/"+names[5]))
	d.ok(rename("/d/"+names[2], "/"+names[2]))
}

// P13.2: each core makes MaxMade inodes, whatever became of them, and then none.
func TestMaxMade(t *testing.T) {
	d := newDesk(t, 2)
	for n := range 31 {
		p := "/n" + strconv.Itoa(n)
		d.ok(by(1, create(p)), unlink(p))
	}
	d.ok(by(1, mkdir("/last")))
	if d.s.Made[1] != 32 || !d.has(2+1+8*31) {
		t.Errorf("made %v", d.s.Made)
	}
	d.code(api.ENOSPC, by(1, create("/more")), by(1, mkdir("/more")), by(1, mkdir("/last/more")))
	d.code(api.EEXIST, by(1, create("/last")), by(1, mkdir("/last")))
	d.code(api.ENOENT, by(1, create("/none/more")))
	d.code(api.EINVAL, by(1, create("/")))
	d.ok(create("/more"), by(1, link("/more", "/last/more")), by(1, rename("/more", "/other")), by(1, unlink("/other")), by(1, unlink("/last/more")))
	d.ok(by(1, rmdir("/last")))
	d.code(api.ENOSPC, by(1, mkdir("/last")))
	d.ok(by(0, mkdir("/last")))
}

// P13.2: all cores make all that they can: 257 inodes.
func TestAllInodes(t *testing.T) {
	d := newDesk(t, api.MaxCores)
	for n := range 8 {
		d.ok(by(n, mkdir("/d"+strconv.Itoa(n))))
	}
	for core := range 8 {
		in := "/d" + strconv.Itoa(core) + "/"
		for bucket := range 8 {
			for at, one := range oneBucket(bucket, 4) {
				if 4*bucket+at < 31 {
					d.ok(by(core, create(in+one)))
				} else {
					d.code(api.ENOSPC, by(core, create(in+one)))
				}
			}
		}
	}
	if len(d.s.Inodes) != 257 || d.s.Inodes[256].Num != 257 {
		t.Errorf("%d inodes", len(d.s.Inodes))
	}
	d.look()
}

// P13.2: Link gives a file another name; names of one file are alike.
func TestLink(t *testing.T) {
	d := aTree(t)
	d.opens(0, "/a", 0)
	d.want(write(0, 0, "one file"), api.Result{Num: 8})
	d.ok(link("/d/a", "/z"))
	d.want(on(api.CallStat, "/z"), api.Result{Num: 8})
	d.want(on(api.CallLinks, "/z"), api.Result{Num: 4})
	d.code(api.EEXIST, link("/a", "/z"), link("/a", "/a"), link("/a", "/d"), link("/d/e/f/file", "/a"))
	d.code(api.EISDIR, link("/", "/r"), link("/d", "/r"), link("/d", "/d"), link("/d", "/"), link("/d/e", "/x/y"), link("/", "bad"))
	d.code(api.ENOENT, link("/x", "/y"), link("/x", "/"), link("/a", "/x/y"), link("/x/y", "bad"))
	d.code(api.ENOTDIR, link("/a/x", "/y"), link("/a", "/a/x"), link("/a", "/d/a/x"))
	d.code(api.EINVAL, link("/a", "/"), link("/a", ""), link("", "/y"), link("bad", "/1234567890123"), link("/a", "/y/"))
	d.code(api.ENAMETOOLONG, link("/1234567890123", "bad"), link("/a", "/1234567890123"), link("/a", "/x/y/z/u/v"))
	d.look()
}

// P13.2: Unlink takes one name; the file goes with its last one, unless it is open.
func TestUnlink(t *testing.T) {
	d := aTree(t)
	d.code(api.EINVAL, unlink("/"), unlink(""), unlink("a"), unlink("/a/"))
	d.code(api.ENAMETOOLONG, unlink("/1234567890123"), unlink("/d/e/f/file/x"))
	d.code(api.ENOENT, unlink("/x"), unlink("/x/y"), unlink("/d/x"))
	d.code(api.ENOTDIR, unlink("/a/x"), unlink("/d/a/x/y"))
	d.code(api.EISDIR, unlink("/d"), unlink("/d/e/f"))
	for left, p := range []string{"/d/e/b", "/a", "/d/a"} {
		d.ok(unlink(p))
		d.code(api.ENOENT, unlink(p))
		if d.has(3) != (left < 2) {
			t.Errorf("behind Unlink %s: %s", p, show(d.s))
		}
	}
	d.look("/a", "/d/a")
}

// P13.2: Rmdir takes an empty directory, and nothing else.
func TestRmdir(t *testing.T) {
	d := aTree(t)
	d.code(api.EINVAL, rmdir("/"), rmdir(""), rmdir("d"), rmdir("/d/"))
	d.code(api.ENAMETOOLONG, rmdir("/1234567890123"), rmdir("/d/e/f/file/x"))
	d.code(api.ENOENT, rmdir("/x"), rmdir("/x/y"), rmdir("/d/x"))
	d.code(api.ENOTDIR, rmdir("/a"), rmdir("/a/x"), rmdir("/d/a/x/y"), rmdir("/d/e/f/file"))
	d.code(api.ENOTEMPTY, rmdir("/d"), rmdir("/d/e"), rmdir("/d/e/f"))
	d.ok(unlink("/d/e/f/file"), by(1, rmdir("/d/e/f")))
	if d.has(18) {
		t.Error("what was removed is there")
	}
	d.code(api.ENOENT, rmdir("/d/e/f"))
	d.code(api.ENOTEMPTY, rmdir("/d/e"))
	d.ok(unlink("/d/e/b"), rmdir("/d/e"), unlink("/d/a"), rmdir("/d"))
	d.want(on(api.CallList, "/"), api.Result{Names: []string{"a"}})
	d.look()
}

// P13.2: Rename of files and directories, within a directory and across.
func TestRename(t *testing.T) {
	d := aTree(t)
	d.ok(rename("/a", "/b"), rename("/b", "/d/b"), rename("/d/b", "/d/e/f/b"), by(1, rename("/d/e/f/b", "/a")))
	d.want(on(api.CallLinks, "/a"), api.Result{Num: 3})
	d.ok(rename("/d/e/f", "/f"), rename("/f", "/d/f"), rename("/d/e", "/d/f/e"), rename("/d", "/D"))
	d.want(on(api.CallList, "/D/f"), api.Result{Names: []string{"e", "file"}})
	d.want(on(api.CallList, "/D/f/e"), api.Result{Names: []string{"b"}})
	d.look("/d", "/d/e", "/f")
}

// P13.2: what Rename refuses, and what comes first.
func TestRenameRefuses(t *testing.T) {
	d := aTree(t)
	d.code(api.EINVAL, rename("/", "/x"), rename("/", "/"), rename("", "/x"), rename("a", ""), rename("/a", "/"), rename("/a", "b"), rename("/d", "/"))
	d.code(api.ENAMETOOLONG, rename("/1234567890123", "/x"), rename("/a", "/1234567890123"), rename("/d", "/d/e/f/x/y"))
	d.code(api.ENOENT, rename("/x", "/"), rename("/x", "bad"), rename("/x", "/a"), rename("/x/y", "/a"), rename("/a", "/x/y"), rename("/d", "/d/x/y"), rename("/x", "/x/y"))
	d.code(api.ENOTDIR, rename("/a/x", "/"), rename("/a", "/a/x"), rename("/a", "/d/a/x"), rename("/d", "/d/a/x"))
	d.code(api.EINVAL, rename("/d", "/d/x"), rename("/d", "/d/e"), rename("/d", "/d/a"), rename("/d", "/d/e/x"), rename("/d", "/d/e/f/file"), rename("/d/e", "/d/e/x"), rename("/d/e", "/d/e/f/x"))
	d.code(api.EEXIST, rename("/a", "/a"), rename("/d", "/d"), rename("/a", "/d"), rename("/d", "/a"), rename("/a", "/d/a"), rename("/d/e", "/d"), rename("/d/e/f", "/d/e"), rename("/d/e/f/file", "/d/e/f"))
	d.ok(mkdir("/de"), rename("/d/e", "/de/e"), rename("/de", "/d/e"))
	d.look()
}
