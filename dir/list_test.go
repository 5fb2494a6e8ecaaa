package dir_test

import (
	"slices"
	"testing"

	"concourse/api"
)

// wantList fails unless List answers just these names, in this row.
func wantList(b *book, names ...string) {
	b.t.Helper()
	b.want()
	var got []string
	for _, entry := range b.d.List(0) {
		got = append(got, entry.Name)
	}
	if !slices.Equal(got, names) {
		b.t.Errorf("List: %q, want %q", got, names)
	}
}

// P9.1: by name rising, byte by byte: a name ahead of those that it begins; bytes above 127 behind all others.
func TestListRises(t *testing.T) {
	rows := [][]string{
		{},
		{"a"},
		{"a", "aa", "aaa", "ab", "b"},
		{"A", "B", "Z", "a", "b", "z"},
		{"1", "10", "11", "2", "9"},
		{" ", "  ", "!", "-", "0", "~", "é"},
		{"~", "\u0080", "é", "\u07ff", "\u0800", "日", "\uffff", "\U00010000", "\U0010ffff"},
		{"a", "a ", "a~", "aé", "a日", "a\U0001F600", "b", "é", "éa", "éé"},
		{"12345678", "123456789", "123456789012", "1234567é", "2"},
		{"日本", "日本語", "日本語a", "日本語の", "日本誠", "日札"},
		{"\ue000", "\ufffd", "\uffff", "\U00010000"},
		{"...", "..a", ".a", "a.", "a.."},
	}
	for _, names := range rows {
		b := makeBook(t, 2, 0, leastWords, 0)
		for i := range names {
			if e := b.insert(0, names[len(names)-1-i], i+1); e != api.OK {
				t.Errorf("%q: error %d", names, e)
			}
		}
		wantList(b, names...)
		for i := 0; i < len(names); i += 2 {
			b.remove(1, names[i])
		}
		for i := 0; i < len(names); i += 2 {
			b.insert(1, names[i], 100+i)
		}
		wantList(b, names...)
	}
}

// P9.1: an entry has its name and its number.
func TestListTellsNumbers(t *testing.T) {
	b := makeBook(t, 1, 0, leastWords, 0)
	b.insert(0, "two", 2)
	b.insert(0, "one", mostNumber)
	b.insert(0, "日本語の", 1)
	want := []api.Entry{{Name: "one", Num: mostNumber}, {Name: "two", Num: 2}, {Name: "日本語の", Num: 1}}
	if got := b.d.List(0); !slices.Equal(got, want) {
		t.Errorf("List: %v, want %v", got, want)
	}
}

// R4: a list that was answered is nobody's else: changing it changes neither the directory nor another answer.
func TestListsAreNew(t *testing.T) {
	b := makeBook(t, 2, 0, leastWords, 0)
	b.fill(0)
	one, two := b.d.List(0), b.d.List(1)
	for i := range one {
		one[i] = api.Entry{Name: "x", Num: -1}
	}
	_ = append(one[:1], api.Entry{Name: "y", Num: -2})
	b.want()
	if !slices.Equal(two, b.sorted()) {
		t.Errorf("another answer is %v", two)
	}
	three := b.d.List(0)
	b.remove(0, three[0].Name)
	b.move(0, three[1].Name, three[0].Name)
	if !slices.Equal(two, three) {
		t.Errorf("an answer changed with the directory: %v", three)
	}
}
