package history_test

import (
	"testing"

	"concourse/api"
	"concourse/model"
)

// seen are calls that look at a state, begun when all else had ended, with what they answer there.
func seen(s api.State, looks ...api.Call) []api.Op {
	var ops []api.Op
	for at, c := range looks {
		_, r := model.Do(s, c)
		ops = append(ops, answered(c, r, 1000, 1001+at))
	}
	return ops
}

// P25.1, P25.2: rows of the same operations leave states that are unlike in one part; where calls behind look at that part,
// each of these is legal, and what they would answer nowhere is not.
func TestWhatIsSeenBehind(t *testing.T) {
	files := newState(t, 2, create("/a"), create("/b"), link("/a", "/ka"), link("/b", "/kb"), opening("/a"), by(1, opening("/b")), by(1, write(0, 0, "b's")))
	for _, one := range []struct {
		what  string
		s     api.State
		ops   []api.Op
		looks []api.Call
		ends  int // how many ways they are seen
	}{
		{"a descriptor's file", files, []api.Op{op(closing(0), 0, 0, 9), op(rename("/a", "/c"), 0, 0, 9), op(rename("/b", "/a"), 0, 0, 9), going(opening("/a"), 0)}, []api.Call{size(0), size(1)}, 5},
		{"a descriptor's number", files, []api.Op{op(closing(0), 0, 0, 9), going(opening("/a"), 0)}, []api.Call{fsync(0), fsync(1)}, 3},
		{"two cores' descriptors", files, []api.Op{going(opening("/a"), 0), going(by(1, opening("/a")), 0), op(closing(0), 0, 0, 9), op(by(1, closing(0)), 0, 0, 9)}, []api.Call{fsync(0), fsync(1), by(1, fsync(0)), by(1, fsync(1))}, 9},
		{"an entry's file", files, []api.Op{op(unlink("/a"), 0, 0, 9), op(rename("/b", "/a"), 0, 0, 9), op(link("/a", "/c"), 0, 0, 9)}, []api.Call{stat("/c"), links("/c"), list("/")}, 2},
		{"an entry's name", files, []api.Op{op(rename("/ka", "/0"), 0, 0, 9), going(rename("/0", "/1"), 0), going(rename("/ka", "/1"), 0), going(rename("/1", "/0"), 0)}, []api.Call{list("/")}, 2},
		{"which file's bytes", files, []api.Op{answered(write(0, 0, "x"), api.Result{Num: 1}, 0, 9), op(closing(0), 0, 0, 9), op(opening("/b"), 0, 0, 9)}, []api.Call{stat("/a"), stat("/b"), by(1, read(0, 0, 9))}, 2},
		{"which file's like bytes", do(t, files, by(1, truncate(0, 0))), []api.Op{answered(write(0, 0, "x"), api.Result{Num: 1}, 0, 9), op(closing(0), 0, 0, 9), op(opening("/b"), 0, 0, 9)}, []api.Call{stat("/a"), stat("/b")}, 2},
		{"bytes", files, []api.Op{answered(write(0, 0, "x"), api.Result{Num: 1}, 0, 9), answered(write(0, 0, "y"), api.Result{Num: 1}, 0, 9)}, []api.Call{read(0, 0, 9)}, 2},
		{"how many bytes", files, []api.Op{answered(write(0, 0, "\x00\x00"), api.Result{Num: 2}, 0, 9), op(truncate(0, 1), 0, 0, 9)}, []api.Call{read(0, 0, 9)}, 2},
		{"which directory's names", do(t, files, mkdir("/d"), mkdir("/e")), []api.Op{op(link("/a", "/d/x"), 0, 0, 9), op(link("/a", "/d/y"), 0, 0, 9), op(rename("/d", "/f"), 0, 0, 9), op(rename("/e", "/d"), 0, 0, 9)}, []api.Call{list("/d"), list("/f")}, 4},
		{"which directory", do(t, files, mkdir("/d"), mkdir("/e")), []api.Op{op(create("/d/x"), 0, 0, 9), op(rename("/d", "/f"), 0, 0, 9), op(rename("/e", "/d"), 0, 0, 9)}, []api.Call{list("/d"), list("/f")}, 2},
		{"what is gone", files, []api.Op{op(unlink("/ka"), 0, 0, 9), op(by(1, closing(0)), 0, 0, 9), going(unlink("/kb"), 0), going(unlink("/b"), 0), going(link("/b", "/c"), 0)}, []api.Call{list("/")}, 8},
		{"where a directory stands", do(t, files, mkdir("/d"), mkdir("/e"), mkdir("/d/s")), []api.Op{op(rename("/d", "/e/s"), 0, 0, 9), going(rename("/e/s", "/d"), 0), going(rename("/e", "/d/e"), 0)}, []api.Call{list("/"), list("/e"), list("/d")}, 3},
	} {
		ends := inOrder(plain(one.s, one.ops))
		ways := map[string]struct{}{}
		for _, last := range ends {
			looked := seen(last, one.looks...)
			ways[told(looked)] = struct{}{}
			ops := append(append([]api.Op(nil), one.ops...), looked...)
			wantLegal(t, true, one.s, ops...)
			wantEnds(t, true, one.s, last, ops...)
			inEachRow(one.ops, func(row []api.Op) { wantLegal(t, true, one.s, append(append([]api.Op(nil), row...), looked...)...) })
			ops[len(ops)-1].Result.Code++
			wantLegal(t, false, one.s, ops...)
		}
		if len(ways) != one.ends {
			t.Errorf("%s: %d states, seen in %d ways", one.what, len(ends), len(ways))
		}
	}
}

// P25.1: bytes and names that look like what stands beside them: a state is not taken for another one.
func TestTextsThatLookAlike(t *testing.T) {
	s := newState(t, 2, create("/a"), by(1, create("/b")), opening("/a"), by(1, opening("/b")), write(0, 0, "?"), by(1, write(0, 0, "?")))
	for _, beside := range []string{"", " ", "0 ", "1 ", "3 ", "0 3 ", "1 3 ", "1 0 3 ", "0 3 1 ", "1 1 3 ", "\n0 3 1 ", "f 3 "} {
		both := "x" + beside + "y"
		wrote := func(core int, data string) api.Op {
			return answered(by(core, write(0, 0, data)), api.Result{Num: len(data)}, 0, 9)
		}
		ops := []api.Op{wrote(0, both), op(truncate(0, 1), 0, 0, 9), wrote(1, "y"), op(by(1, truncate(0, 1)), 0, 0, 9), wrote(1, "?"), wrote(0, both)}
		for _, a := range []string{"x", both} {
			for _, b := range []string{"y", "?"} {
				behind := []api.Op{answered(read(0, 0, 256), api.Result{Data: a}, 9, 10), answered(by(1, read(0, 0, 256)), api.Result{Data: b}, 9, 10)}
				r := row(1)
				for range 6 {
					wantLegal(t, true, s, append(append([]api.Op(nil), ops...), behind...)...)
					r.shuffle(ops)
				}
			}
		}
	}
	// Numbers and bytes that stand side by side: what ends a number is told, too.
	ones, others := [2]string{"0313zzzzzzz", "1"}, [2]string{"www", "zzzzzzz033www"}
	wrote := func(core int, data string) api.Op {
		return answered(by(core, write(0, 0, data)), api.Result{Num: len(data)}, 0, 9)
	}
	for k, data := range ones {
		beside := []api.Op{op(truncate(0, 0), 0, 0, 9), op(by(1, truncate(0, 0)), 0, 0, 9), wrote(0, ones[0]), wrote(0, ones[1]), wrote(1, others[0]), wrote(1, others[1]),
			answered(read(0, 0, 256), api.Result{Data: data}, 9, 10), answered(by(1, read(0, 0, 256)), api.Result{Data: others[k]}, 9, 10)}
		r := row(2)
		for range 20 {
			wantLegal(t, true, s, beside...)
			r.shuffle(beside)
		}
	}
	for _, name := range []string{"7", "1 3", "1 3 ", "1 10 1", "c3 1 d"} {
		var ops []api.Op
		for _, p := range []string{"/" + name, "/c", "/d"} {
			ops = append(ops, op(by(1, link("/a", p)), 0, 0, 9), going(unlink(p), 0))
		}
		s := newState(t, 2, by(1, create("/a")), mkdir("/s"))
		ends := inOrder(plain(s, ops[:5]))
		if len(ends) != 4 {
			t.Errorf("%s: %d ends", name, len(ends))
		}
		for _, last := range ends {
			wantLegal(t, true, s, append(append([]api.Op(nil), ops[:5]...), seen(last, list("/"), links("/a"))...)...)
			wantEnds(t, true, s, last, ops[:5]...)
		}
	}
}

// P25.2: a file and a directory of like names, made and gone, whose numbers are told apart by the last state alone.
func TestEndsOfFilesAndDirectories(t *testing.T) {
	s := newState(t, 2)
	for _, ops := range [][]api.Op{
		{op(create("/x"), 0, 0, 9), op(mkdir("/y"), 0, 0, 9), going(unlink("/x"), 0), going(rmdir("/y"), 0), op(create("/z"), 0, 0, 9)},
		{going(create("/x"), 0), going(mkdir("/x"), 0), going(unlink("/x"), 0), going(rmdir("/x"), 0), op(mkdir("/z"), 0, 0, 9)},
		{op(create("/x"), 0, 0, 9), op(mkdir("/x"), 0, 0, 9), op(rename("/x", "/y"), 0, 0, 9), op(unlink("/y"), 0, 9, 18), op(rmdir("/x"), 0, 9, 18), going(create("/z"), 0)},
		{op(create("/x"), 0, 0, 9), op(mkdir("/y"), 0, 0, 9), going(rename("/x", "/t"), 0), going(rename("/y", "/x"), 0), going(rename("/t", "/y"), 0)},
	} {
		ends := wantJust(t, s, ops...)
		if len(ends) < 2 {
			t.Errorf("one end or none of\n%s", told(ops))
		}
		inEachRow(ops, func(row []api.Op) {
			for _, last := range ends {
				wantEnds(t, true, s, last, row...)
			}
		})
	}
}
