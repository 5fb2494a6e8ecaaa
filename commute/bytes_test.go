package commute_test

import (
	"testing"

	"concourse/api"
)

// oneFile is a state in which /a is so long, and open by three cores as 0; core 0 has it as 1 too.
func oneFile(t *testing.T, bytes int) api.State {
	t.Helper()
	s := newState(t, 3, create("/a"), mkdir("/d"), link("/a", "/d/a"), opening("/a"), by(1, opening("/d/a")), by(2, opening("/a")), opening("/a"), create("/other"), by(1, opening("/other")))
	return do(t, s, write(0, 0, fill('x', bytes)))
}

// P24.2: a Truncate beside each call that has the file's bytes, and beside what has not.
func TestTruncates(t *testing.T) {
	s := oneFile(t, 64)
	for _, num := range []int{0, 3, 64, 256, 257, -1} {
		wantAll(t, s, truncate(0, num), "2", truncate(0, 9), truncate(0, num), read(0, 0, 9), read(0, 0, 0), read(0, 200, 9), read(0, -1, 9), write(0, 0, "y"), write(0, 200, "y"), write(0, 9, ""), write(0, 300, "y"), size(0), closing(0), stat("/a"), stat("/d/a"))
		wantAll(t, s, truncate(0, num), "", opening("/a"), links("/a"), stat("/d"), stat("/other"), stat("/x"), list("/d"), link("/a", "/n"), unlink("/a"), rename("/a", "/n"), create("/n"))
		wantAll(t, s, truncate(3, num), "", truncate(0, 9), stat("/a"), write(0, 200, "y"))
	}
	for fd := 2; fd < 6; fd++ {
		wantAll(t, s, truncate(0, 3), "", read(fd, 0, 9), write(fd, 0, "y"), size(fd), closing(fd), truncate(fd, 3))
		wantAll(t, s, truncate(-1, 3), "", read(fd, 0, 9), write(fd, 0, "y"), size(fd), closing(fd), truncate(fd, 3))
	}
}

// P24.2: a Write that lengthens the file beside all that have its bytes; one that ends at the size does not.
func TestLengthening(t *testing.T) {
	for _, bytes := range []int{0, 1, 15, 16, 17, 64, 255} {
		s := oneFile(t, bytes)
		for _, a := range []api.Call{write(0, bytes, "y"), write(0, 255, "y"), write(0, 0, fill('y', bytes+1)), write(0, 0, fill('y', 256))} {
			wantAll(t, s, a, "2", read(0, 0, 1), read(0, 0, 0), read(0, 256, 9), read(0, 0, 257), size(0), closing(0), stat("/a"), stat("/d/a"), write(0, 0, ""), write(0, 200, "y"), write(0, 257, "y"), write(0, 256, "y"))
			wantAll(t, s, a, "", stat("/d"), stat("/other"), opening("/a"), links("/a"), rename("/a", "/n"), unlink("/d/a"), read(3, 0, 1), size(-1))
		}
		if bytes == 0 {
			continue
		}
		for _, a := range []api.Call{write(0, bytes-1, "y"), write(0, 0, fill('y', bytes))} {
			wantAll(t, s, a, "", size(0), closing(0), stat("/a"), stat("/d/a"), read(0, 0, 0), read(0, bytes, 9), read(0, 0, 257), write(0, 0, ""), write(0, 256, "y"))
			wantAll(t, s, a, "2", read(0, bytes-1, 1), write(0, bytes-1, "z"), read(0, 0, 256))
		}
	}
}

// P24.2: a Write that writes nothing, or that Do refuses, does nothing beside what has the bytes, wherever it stands.
func TestWritesOfNothing(t *testing.T) {
	s := oneFile(t, 64)
	for _, off := range []int{-1, 0, 16, 63, 64, 65, 200, 256, 257} {
		wantAll(t, s, write(0, off, ""), "", read(0, 0, 256), write(0, 0, fill('y', 64)), size(0), closing(0), stat("/a"), write(0, off, ""), read(0, off, 1))
		wantAll(t, s, write(0, off, ""), "2", truncate(0, 64), write(0, 64, "y"))
	}
	for _, a := range []api.Call{write(0, 256, "y"), write(0, 250, "1234567"), write(0, -1, "y"), write(0, 0, fill('y', 257)), write(0, -1<<63, "y"), write(0, 1<<63-1, "y")} {
		wantAll(t, s, a, "", read(0, 0, 256), write(0, 0, fill('y', 64)), size(0), stat("/a"), a)
		wantAll(t, s, a, "2", write(0, 64, "y"), truncate(0, 1))
	}
}

// P24.2: Reads and Writes in one page and in unlike pages, at each place and of each length.
func TestPages(t *testing.T) {
	s := oneFile(t, 80)
	places := []int{0, 1, 14, 15, 16, 17, 30, 31, 32, 33, 47, 48, 63, 64, 79}
	for _, a := range places {
		for _, b := range places {
			points := ""
			if a/16 == b/16 {
				points = "2"
			}
			wantPoints(t, s, write(0, a, "y"), read(0, b, 1), points)
			wantPoints(t, s, write(0, a, "y"), write(0, b, "y"), points)
			wantPoints(t, s, write(0, a, "y"), write(0, b, "z"), points)
			wantPoints(t, s, read(0, a, 1), read(0, b, 1), "")
		}
	}
}

// P24.2: Writes over several pages, from a page's first byte to one's last, or from a last byte to a first one.
func TestSeveralPages(t *testing.T) {
	s := oneFile(t, 80)
	for from := range 5 {
		for to := from + 1; to < 5; to++ {
			for _, a := range []api.Call{write(0, 16*from, fill('y', 16*(to-from+1))), write(0, 16*from+15, fill('y', 16*(to-from-1)+2))} {
				for page := range 5 {
					points := ""
					if page >= from && page <= to {
						points = "2"
					}
					wantAll(t, s, a, points, read(0, 16*page, 1), read(0, 16*page+15, 1), read(0, 16*page, 16), write(0, 16*page, fill('z', 16)), write(0, 16*page+15, "z"))
				}
				wantAll(t, s, a, "", read(0, 0, 16*from), read(0, 16*to+16, 256), read(0, 80, 176), read(0, 256, 1))
				wantAll(t, s, a, "2", read(0, 0, 16*from+1), read(0, 16*to+15, 256), write(0, 0, fill('z', 80)))
			}
		}
	}
}

// P24.2: a Read's bytes are those that it answers: at the file's end, behind it, and of none.
func TestReadsAtTheEnd(t *testing.T) {
	for _, bytes := range []int{1, 15, 16, 17, 50, 64, 255} {
		s := oneFile(t, bytes)
		last := write(0, bytes-1, "y")
		wantAll(t, s, last, "", read(0, bytes, 1), read(0, bytes, 256), read(0, 256, 256), read(0, bytes-1, 0), read(0, 0, 0), read(0, bytes-1, -1), read(0, -1, 256), read(0, bytes-1, 257), read(0, 257, 1))
		wantAll(t, s, last, "2", read(0, bytes-1, 1), read(0, bytes-1, 256), read(0, 0, 256), read(0, 0, bytes))
		if page := (bytes - 1) / 16 * 16; page > 0 {
			wantAll(t, s, last, "2", read(0, 0, page+1), read(0, page, 1))
			wantAll(t, s, last, "", read(0, 0, page), read(0, page-1, 1), write(0, 0, fill('z', page)), write(0, page-1, "z"))
		}
	}
	s := oneFile(t, 0)
	wantAll(t, s, read(0, 0, 256), "", read(0, 0, 256), write(0, 0, ""), size(0), stat("/a"), closing(0))
	wantAll(t, s, read(0, 0, 256), "2", write(0, 0, "y"), truncate(0, 0))
}

// P24.2: the bytes are one inode's, whichever core, descriptor and path lead to it; of another file they are not.
func TestWhoseBytes(t *testing.T) {
	s := oneFile(t, 64)
	all := write(0, 0, fill('y', 64))
	for _, a := range []api.Call{all, by(2, all), write(1, 0, fill('y', 64))} {
		for _, b := range []api.Call{by(1, read(0, 0, 1)), by(1, all)} {
			if points := plainPoints(s, a, b); points != "2" {
				t.Errorf("points %q: %+v, %+v", points, a, b)
			}
			wantPlain(t, s, a, b)
		}
		for _, b := range []api.Call{by(1, read(1, 0, 64)), by(1, write(1, 0, "y")), by(1, truncate(1, 0)), by(1, size(0)), by(1, closing(0)), by(1, stat("/a")), by(1, read(2, 0, 64)), by(1, stat("/other")), by(1, stat("/d"))} {
			wantBoth(t, s, a, b)
		}
	}
	for _, looks := range []api.Call{size(0), closing(0), stat("/a"), stat("/d/a"), read(0, 0, 64)} {
		wantAll(t, s, looks, "", size(0), closing(0), stat("/a"), stat("/d/a"), read(0, 0, 64), stat("/d"), stat("/"))
	}
	wantAll(t, s, stat("/d"), "", all, truncate(0, 0), write(0, 64, "y"), create("/d/n"), unlink("/d/a"))
}
