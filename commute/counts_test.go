package commute_test

import (
	"testing"

	"concourse/api"
)

// countState is of two cores: /a is /d/a and /e/a too, /b and /c have one name each; all are open, by both cores,
// as 0, 1 and 2; /d/s is empty.
func countState(t *testing.T) api.State {
	t.Helper()
	s := newState(t, 2, create("/a"), create("/b"), create("/c"), mkdir("/d"), mkdir("/e"), mkdir("/d/s"), link("/a", "/d/a"), link("/a", "/e/a"))
	for _, p := range []string{"/a", "/b", "/c"} {
		s = do(t, s, opening(p), by(1, opening(p)))
	}
	return do(t, s, write(1, 0, fill('x', 64)), write(0, 0, fill('x', 64)))
}

// P24.2: Links of an inode beside what turns how many entries it has; of another inode, or beside what does not, it is apart.
func TestLinksBeside(t *testing.T) {
	s := countState(t)
	wantAll(t, s, links("/a"), "3", link("/d/a", "/n"), link("/e/a", "/d/n"), unlink("/d/a"), unlink("/e/a"), link("/a", "/n"))
	wantAll(t, s, links("/d/a"), "3", link("/a", "/n"), unlink("/a"), unlink("/e/a"))
	wantAll(t, s, links("/a"), "13", unlink("/a"), link("/a", "/i"))
	wantAll(t, s, links("/b"), "13", unlink("/b"), link("/b", "/j"))
	wantAll(t, s, links("/b"), "3", link("/b", "/d/j"))
	wantAll(t, s, links("/b"), "", link("/a", "/n"), unlink("/a"), unlink("/d/a"), link("/c", "/n"), unlink("/c"), rmdir("/d/s"), create("/n"), mkdir("/n"))
	wantAll(t, s, links("/a"), "", rename("/d/a", "/n"), rename("/e/a", "/e/n"), create("/n"), mkdir("/d/n"), rmdir("/d/s"), unlink("/b"), link("/b", "/n"), links("/a"), links("/d/a"), opening("/a"), write(0, 0, "y"), truncate(0, 9))
	wantAll(t, s, links("/n"), "", link("/a", "/d/n"), create("/e/n"), mkdir("/d/n"), unlink("/a"))
	wantAll(t, s, links("/n"), "1", link("/a", "/n"), create("/n"), mkdir("/n"))
	wantAll(t, s, links("/d/s"), "13", rmdir("/d/s"))
	wantAll(t, s, links("/d"), "", rmdir("/d/s"), mkdir("/d/n"), create("/d/n"), unlink("/d/a"), link("/b", "/d/n"))
	wantAll(t, s, links("/a/x"), "", link("/a", "/n"), unlink("/d/a"))
	wantAll(t, s, links(""), "", link("/a", "/n"), unlink("/d/a"))
}

// P24.2: what Do refuses turns no number of entries.
func TestLinksBesideRefused(t *testing.T) {
	s := countState(t)
	wantAll(t, s, links("/a"), "", link("/d/a", "/b"), link("/d/a", "/d/a"), link("/a", "/x/y"), link("/e/a", ""), unlink("/d/x"), create("/a"), create("/d/a"), mkdir("/a"), rmdir("/a"), rmdir("/d"))
	full := do(t, s, link("/b", "/i"), link("/b", "/q"), link("/b", "/y"))
	wantAll(t, full, links("/d/a"), "", link("/a", "/A"), link("/e/a", "/Q"))
	wantAll(t, full, links("/d/a"), "3", link("/a", "/k"))
}

// P24.2: an Unlink that leaves a file without entries beside a descriptor of it, by each kind of call.
func TestLastEntryBesideDescriptor(t *testing.T) {
	s := countState(t)
	onFd := func(fd int) []api.Call {
		return []api.Call{closing(fd), read(fd, 0, 9), read(fd, -1, 9), write(fd, 0, "y"), write(fd, 64, "y"), write(fd, 0, ""), write(fd, 999, ""), truncate(fd, 9), truncate(fd, -9), size(fd)}
	}
	wantAll(t, s, unlink("/b"), "3", onFd(1)...)
	wantAll(t, s, unlink("/c"), "3", onFd(2)...)
	for _, fd := range []int{-1, 0, 2, 3, 4} {
		wantAll(t, s, unlink("/b"), "", onFd(fd)...)
	}
	for fd := range 4 {
		wantAll(t, s, unlink("/a"), "", onFd(fd)...)
		wantAll(t, s, unlink("/d/a"), "", onFd(fd)...)
		wantAll(t, s, rename("/b", "/n"), "", onFd(fd)...)
		wantAll(t, s, link("/b", "/n"), "", onFd(fd)...)
		wantAll(t, s, rmdir("/d/s"), "", onFd(fd)...)
		wantAll(t, s, unlink("/x"), "", onFd(fd)...)
		wantAll(t, s, unlink("/b/x"), "", onFd(fd)...)
		wantAll(t, s, rmdir("/b"), "", onFd(fd)...)
	}
	wantAll(t, s, unlink("/b"), "", opening("/a"), opening("/c"), create("/n"), mkdir("/k"), stat("/d/b"), list("/d"))
}

// P24.2: of a file of two names, Unlink of one leaves an entry, and so do two Unlinks side by side; of the last one not.
func TestOneNameOfTwo(t *testing.T) {
	s := do(t, countState(t), unlink("/e/a"))
	wantAll(t, s, unlink("/a"), "", closing(0), read(0, 0, 9), truncate(0, 0), size(0), unlink("/d/a"), stat("/d/a"), opening("/d/a"), rename("/d/a", "/n"), link("/d/a", "/n"))
	wantAll(t, s, unlink("/a"), "3", links("/d/a"))
	wantAll(t, s, unlink("/a"), "1", stat("/a"), opening("/i"), unlink("/a"))
	last := do(t, s, unlink("/d/a"))
	wantAll(t, last, unlink("/a"), "3", closing(0), read(0, 0, 9), truncate(0, 0), size(0))
	wantAll(t, last, unlink("/a"), "13", stat("/a"), opening("/a"), unlink("/a"))
	wantAll(t, last, unlink("/a"), "1", opening("/i"), stat("/i"))
	again := do(t, last, link("/a", "/k"))
	wantAll(t, again, unlink("/a"), "", closing(0), read(0, 0, 9), stat("/k"))
}

// P24.2: an Unlink or Rmdir that leaves an inode without entries beside a path that finds it, or goes through it. Such
// a path looks at the bucket of the entry too; but a name that is not there finds nothing, though it looks there.
func TestLastEntryBesidePath(t *testing.T) {
	s := countState(t)
	wantAll(t, s, unlink("/b"), "13", stat("/b"), opening("/b"), links("/b"), list("/b"), create("/b"), unlink("/b"), rmdir("/b"), link("/b", "/n"), link("/a", "/b"), rename("/b", "/n"), rename("/a", "/b"))
	wantAll(t, s, unlink("/b"), "13", stat("/b/x"), create("/b/x"), opening("/b/x/y"), link("/b/x", "/n"), link("/a", "/b/x"), rename("/a", "/b/x"))
	wantAll(t, s, unlink("/b"), "1", stat("/j"), stat("/j/x"), create("/r"), rename("/a", "/z"), link("/a", "/j/x"))
	wantAll(t, s, rmdir("/d/s"), "13", stat("/d/s"), list("/d/s"), rmdir("/d/s"), create("/d/s/n"), stat("/d/s/n/m"), rename("/d/s", "/n"), link("/a", "/d/s/n"), rename("/a", "/d/s/n"), rename("/d", "/d/s/n"))
	wantAll(t, s, rmdir("/d/s"), "1", stat("/d/C"), list("/d"), create("/d/K"), rmdir("/d"))
	wantAll(t, s, rmdir("/d/s"), "", stat("/d"), create("/d/n"), stat("/s"), create("/e/s"), unlink("/d/a"), rmdir("/e"))
	wantAll(t, s, unlink("/b"), "", stat("/d/b"), stat("/a/b"), create("/e/b/x"), opening("/c"))
	wantAll(t, s, unlink("/d/a"), "1", stat("/d/a"), opening("/d/a/x"), create("/d/a"))
}
