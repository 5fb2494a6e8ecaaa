package shape_test

import (
	"cmp"
	"slices"
	"strconv"
	"strings"
	"testing"

	"concourse/api"
	"concourse/model"
	"concourse/shape"
)

// aState may be: 3 cores; /a, /b and /d/e/b are file 3; /d is 2, /d/e is 10, /d/e/c file 4; file 11 is open alone, file 3
// by two cores.
func aState() api.State {
	return api.State{
		Inodes: []api.Inode{
			{Num: 1, Dir: true, Entries: []api.Entry{{Name: "a", Num: 3}, {Name: "b", Num: 3}, {Name: "d", Num: 2}}},
			{Num: 2, Dir: true, Entries: []api.Entry{{Name: "e", Num: 10}}},
			{Num: 3, Data: "bytes"},
			{Num: 4},
			{Num: 10, Dir: true, Entries: []api.Entry{{Name: "b", Num: 3}, {Name: "c", Num: 4}}},
			{Num: 11, Data: "held"},
		},
		Open: []api.Desc{{Core: 0, Fd: 1, Num: 3}, {Core: 1, Fd: 0, Num: 3}, {Core: 1, Fd: 3, Num: 11}},
		Made: []int{2, 3, 1},
	}
}

// P14.1: the lines of one state, written out.
func TestLines(t *testing.T) {
	files := []string{
		"d / 1", "f /a 3 6279746573", "f /b 3 6279746573", "d /d 2", "d /d/e 10", "f /d/e/b 3 6279746573", "f /d/e/c 4 -",
	}
	wantLines(t, aState(), files, append(files, "u 11 68656c64", "o 0 1 3", "o 1 0 3", "o 1 3 11", "m 2 3 1"))
}

// P14.1: the root alone, with each number of cores.
func TestRootAlone(t *testing.T) {
	for cores := 1; cores <= api.MaxCores; cores++ {
		d := newDesk(t, cores)
		d.look()
		wantLines(t, d.s, []string{"d / 1"}, []string{"d / 1", "m" + strings.Repeat(" 0", cores)})
	}
}

// P14.1: Made of one core and of MaxCores, from 0 to MaxMade.
func TestMade(t *testing.T) {
	for made, want := range map[string]api.State{
		"m 0": {Made: []int{0}}, "m 1": {Made: []int{1}}, "m 32": {Made: []int{32}}, "m 0 0": {Made: []int{0, 0}}, "m 10 2": {Made: []int{10, 2}},
		"m 32 0 1 9 10 31 0 32": {Made: []int{32, 0, 1, 9, 10, 31, 0, 32}}, "m 0 32 0 0 0 0 0 0": {Made: []int{0, 32, 0, 0, 0, 0, 0, 0}},
	} {
		want.Inodes = []api.Inode{{Num: 1, Dir: true}}
		wantLines(t, want, []string{"d / 1"}, []string{"d / 1", made})
	}
	d := newDesk(t, api.MaxCores)
	d.ok(mkdir("/d"))
	for range 31 {
		d.ok(create("/d/a"), unlink("/d/a"))
	}
	d.ok(by(7, create("/a")))
	wantLines(t, d.s, []string{"d / 1", "f /a 9 -", "d /d 2"}, []string{"d / 1", "f /a 9 -", "d /d 2", "m 32 0 0 0 0 0 0 1"})
}

// P14.1: empty directories, at the root and below others, and one that became empty.
func TestEmptyDirectories(t *testing.T) {
	d := newDesk(t, 2)
	d.ok(mkdir("/e"), by(1, mkdir("/d")), mkdir("/d/e"), create("/d/f"), create("/e/f"), unlink("/e/f"))
	files := []string{"d / 1", "d /d 3", "d /d/e 10", "f /d/f 18 -", "d /e 2"}
	wantLines(t, d.s, files, append(files, "m 4 1"))
}

// P14.1: names rise byte by byte within a directory, and what is in a directory comes right behind it, ahead of names
// that go on from its name.
func TestNamesRise(t *testing.T) {
	d := newDesk(t, 1)
	names := []string{" ", "...", "0", "10", "9", "A", "Z", "a", "a b", "a-", "a.b", "a0", "aa", "b", "~", "\u0080", "é", "日", "😀"}
	for _, one := range slices.Backward(names) {
		d.ok(mkdir("/" + one))
	}
	d.ok(create("/a/z"), create("/a/a"), create("/ /x"), create("/a b/ "), create("/é/x"))
	var want []string
	for _, one := range names {
		want = append(want, "/"+one)
		for _, below := range map[string][]string{"a": {"/a/a", "/a/z"}, " ": {"/ /x"}, "a b": {"/a b/ "}, "é": {"/é/x"}}[one] {
			want = append(want, below)
		}
	}
	text, _ := shape.Files(d.s)
	var got []string
	for _, line := range strings.Split(text, "\n")[1 : len(want)+1] {
		words := strings.TrimSuffix(line[2:], " -")
		got = append(got, words[:strings.LastIndex(words, " ")])
	}
	if !slices.Equal(got, want) {
		t.Errorf("%q\nwant\n%q", got, want)
	}
}

// P14.1: a file of several names has a line for each, where the name stands.
func TestSeveralNames(t *testing.T) {
	d := newDesk(t, 1)
	d.ok(create("/m"), mkdir("/d"), mkdir("/d/d"), create("/d/b"), opening("/m"), write(0, 0, "\x0a\xf0"))
	d.ok(link("/m", "/a"), link("/a", "/z"), link("/m", "/d/a"), link("/m", "/d/c"), link("/m", "/d/d/m"), closing(0))
	files := []string{
		"d / 1", "f /a 2 0af0", "d /d 10", "f /d/a 2 0af0", "f /d/b 26 -", "f /d/c 2 0af0", "d /d/d 18", "f /d/d/m 2 0af0", "f /m 2 0af0", "f /z 2 0af0",
	}
	wantLines(t, d.s, files, append(files, "m 4"))
	for _, p := range []string{"/a", "/m", "/d/a", "/d/c", "/d/d/m"} {
		d.ok(unlink(p))
	}
	files = []string{"d / 1", "d /d 10", "f /d/b 26 -", "d /d/d 18", "f /z 2 0af0"}
	wantLines(t, d.s, files, append(files, "m 4"))
}

// everyByte is each byte value once, rising.
func everyByte() string {
	var data []byte
	for value := range 256 {
		data = append(data, byte(value))
	}
	return string(data)
}

// P14.1: a file's bytes, two digits each: none, one of each value, every value, MaxFile of one.
func TestBytes(t *testing.T) {
	const digits = "0123456789abcdef"
	of := func(value int) string { return string([]byte{digits[value/16], digits[value%16]}) }
	all := ""
	cases := map[string]string{
		"": "-", "\x00\x00": "0000", "\n": "0a", "-": "2d", "日": "e697a5", strings.Repeat("\xff", 256): strings.Repeat("ff", 256),
		strings.Repeat("\x00", 256): strings.Repeat("00", 256),
	}
	for value := range 256 {
		cases[string([]byte{byte(value)})] = of(value)
		all += of(value)
	}
	cases[everyByte()] = all
	for data, want := range cases {
		d := newDesk(t, 1)
		d.ok(create("/f"), opening("/f"), write(0, 0, data))
		wantLines(t, d.s, []string{"d / 1", "f /f 2 " + want}, []string{"d / 1", "f /f 2 " + want, "o 0 0 2", "m 1"})
		d.ok(unlink("/f"))
		wantLines(t, d.s, []string{"d / 1"}, []string{"d / 1", "u 2 " + want, "o 0 0 2", "m 1"})
	}
}

// P14.1: files that are open and have no entry have a line each, by number rising, however many have them open; those
// that have an entry have none.
func TestOpenWithoutEntries(t *testing.T) {
	d := newDesk(t, 3)
	d.ok(by(2, create("/a")), by(1, create("/b")), create("/c"), create("/named"), by(1, create("/twice")))
	d.ok(opening("/a"), opening("/named"), opening("/c"), by(1, opening("/twice")), by(1, opening("/b")), by(2, opening("/a")), by(2, opening("/a")))
	d.ok(write(2, 0, "c\x00"), by(1, write(0, 0, "t")), write(1, 3, "n"), link("/twice", "/other"), unlink("/twice"), unlink("/a"), unlink("/b"), unlink("/c"))
	files := []string{"d / 1", "f /named 10 0000006e", "f /other 11 74"}
	open := []string{"o 0 0 4", "o 0 1 10", "o 0 2 2", "o 1 0 11", "o 1 1 3", "o 2 0 4", "o 2 1 4", "m 2 2 1"}
	wantLines(t, d.s, files, slices.Concat(files, []string{"u 2 6300", "u 3 -", "u 4 -"}, open))
	d.ok(unlink("/other"), by(1, closing(1)))
	files, open = files[:2], slices.Delete(open, 4, 5)
	wantLines(t, d.s, files, slices.Concat(files, []string{"u 2 6300", "u 4 -", "u 11 74"}, open))
	d.ok(closing(0), by(2, closing(0)))
	d.ok(by(2, closing(1)), closing(1), closing(2), by(1, closing(0)))
	wantLines(t, d.s, files, append(files, "m 2 2 1"))
}

// P14.1: numbers rise as numbers, not as texts.
func TestUnnamedByNumber(t *testing.T) {
	d := newDesk(t, 8)
	for _, core := range []int{7, 0, 3} {
		for given := range 4 {
			p := "/" + strconv.Itoa(given)
			d.ok(by(core, create(p)), by(core, opening(p)), unlink(p))
		}
	}
	var want []string
	for _, num := range []int{2, 5, 9, 10, 13, 17, 18, 21, 25, 26, 29, 33} {
		want = append(want, "u "+strconv.Itoa(num)+" -")
	}
	text, _ := shape.Of(d.s)
	if got := strings.Split(text, "\n")[1:13]; !slices.Equal(got, want) {
		t.Errorf("%q", got)
	}
}

// P14.1: all descriptors that there can be, of one file with a name.
func TestAllDescriptors(t *testing.T) {
	d := newDesk(t, api.MaxCores)
	d.ok(create("/f"))
	all := []string{"d / 1", "f /f 2 -"}
	for core := range 8 {
		for fd := range 4 {
			d.ok(by(core, opening("/f")))
			all = append(all, "o "+strconv.Itoa(core)+" "+strconv.Itoa(fd)+" 2")
		}
	}
	wantLines(t, d.s, all[:2], append(all, "m 1 0 0 0 0 0 0 0"))
}

// P14.1: directories as deep as Renames can bring them: each of them puts all that there is three names further down.
func TestAsDeepAsRenames(t *testing.T) {
	d := newDesk(t, api.MaxCores)
	d.ok(create("/end"), opening("/end"), write(0, 0, "e"))
	made := 1
	do := func(c api.Call) {
		if r := d.do(by(made/api.MaxMade, c)); r.Code != api.CodeOK {
			t.Fatalf("%+v: code %d", c, r.Code)
		}
		made++
	}
	top, next, other := "end", "a", "b"
	for made+3 <= api.MaxCores*api.MaxMade {
		do(mkdir("/" + next))
		do(mkdir("/" + next + "/x"))
		do(mkdir("/" + next + "/x/yz"))
		if r := d.do(rename("/"+top, "/"+next+"/x/yz/"+top)); r.Code != api.CodeOK {
			t.Fatalf("Rename of /%s: code %d", top, r.Code)
		}
		top, next, other = next, other, next
	}
	d.look()
	names := d.w.paths()
	if deep := len(names[len(names)-1]); deep != made {
		t.Errorf("%d deep, of %d that were made", deep, made)
	}
	if text, _ := shape.Files(d.s); !strings.HasSuffix(text, "/x/yz/end 2 65\n") {
		t.Error("the file at the end is not told")
	}
}

// chain is a state of so many directories, each in the one ahead, with as many names of a file in each of them.
func chain(count, names int) api.State {
	s := api.State{Made: []int{32, 32, 32, 32, 32, 32, 32, 32}}
	var entries []api.Entry
	var slots [api.Buckets]int
	for at := 0; len(entries) < names; at++ {
		one := "d" + strings.Repeat("x", 8) + strconv.Itoa(100+at)
		if at := bucketOf(one); slots[at] < api.MaxSlots-1 {
			slots[at]++
			entries = append(entries, api.Entry{Name: one, Num: 257})
		}
	}
	for at := range count + 1 {
		x := api.Inode{Num: 1 + at, Dir: true, Entries: slices.Clone(entries)}
		if at < count {
			x.Entries = append(x.Entries, api.Entry{Name: "dzzzzzzzzzzz", Num: 2 + at})
		}
		s.Inodes = append(s.Inodes, x)
	}
	if names > 0 {
		s.Inodes = append(s.Inodes, api.Inode{Num: 257, Data: strings.Repeat("\xee", 256)})
	}
	return s
}

// bucketOf is layer 8's Bucket.
func bucketOf(s string) int {
	hash := uint64(7)
	for _, r := range s {
		hash = (31*hash + uint64(r)) % (1 << 32)
	}
	return int(hash % 8)
}

// R1: the greatest states that may be are told in little time.
func TestGreatestStates(t *testing.T) {
	for _, one := range [][2]int{{256, 0}, {255, 24}, {0, 24}, {1, 0}} {
		s := chain(one[0], one[1])
		if !model.May(s) {
			t.Fatalf("%d directories of %d names may not be", one[0], one[1])
		}
		var want []string
		p := ""
		for at := range one[0] + 1 {
			want = append(want, "d "+cmp.Or(p, "/")+" "+strconv.Itoa(1+at))
			for _, e := range s.Inodes[0].Entries[:one[1]] {
				want = append(want, "f "+p+"/"+e.Name+" 257 "+strings.Repeat("ee", 256))
			}
			p += "/dzzzzzzzzzzz"
		}
		wantLines(t, s, want, append(want, "m"+strings.Repeat(" 32", 8)))
		if !shape.Same(s, chain(one[0], one[1])) {
			t.Error("not one")
		}
	}
}
