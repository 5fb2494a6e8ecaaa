package oplog_test

import (
	"slices"
	"testing"
	"unsafe"

	"concourse/api"
	"concourse/oplog"
)

// ofTexts gives logs whose calls have texts.
func ofTexts(t *testing.T) *book {
	t.Helper()
	b := makeBook(t, 3)
	for num := range 20 {
		b.add(full(num%17, num%3, num), st(num/2, 0))
	}
	b.check()
	return b
}

// askings are the calls that hand out records.
func askings() map[string]func(l *oplog.Log) []api.Record {
	return map[string]func(l *oplog.Log) []api.Record{
		"Core(0)": func(l *oplog.Log) []api.Record { return l.Core(0) },
		"Core(2)": func(l *oplog.Log) []api.Record { return l.Core(2) },
		"Merge":   func(l *oplog.Log) []api.Record { return l.Merge() },
	}
}

// spoil writes over all records of a list, in its spare room too.
func spoil(all []api.Record) {
	for at := range all[:cap(all)] {
		all[:cap(all)][at] = api.Record{Stamp: st(-7, -7), Call: full(3, 1, 777)}
	}
}

// R4: what is handed out is the caller's own: to write over it changes no Log and no other answer.
func TestAnswersAreTheCallers(t *testing.T) {
	for what, ask := range askings() {
		b := ofTexts(t)
		one, two := ask(b.l), ask(b.l)
		want := slices.Clone(two)
		spoil(one)
		wantRecords(t, what, two, want)
		b.check()
		b.add(by(1, 50), st(100, 0))
		b.check()
		spoil(two)
		b.drop(st(5, 1))
		b.check()
	}
}

// R4: what was handed out stays, whatever is added and dropped behind it.
func TestAnswersStay(t *testing.T) {
	for what, ask := range askings() {
		b := ofTexts(t)
		got := ask(b.l)
		want := slices.Clone(got)
		for num := range 100 {
			b.add(full(num%17, num%3, 200+num), st(num, 1))
			if num%10 == 0 {
				b.drop(st(num, 1))
			}
			wantRecords(t, what, got, want)
		}
		b.drop(st(most, 7))
		b.fill(0, 256)
		b.fill(2, 256)
		wantRecords(t, what, got, want)
	}
}

// R4: what the caller puts behind an answer, into its spare room, stays as well, and is told by nobody.
func TestSpareRoomIsTheCallers(t *testing.T) {
	for what, ask := range askings() {
		b := ofTexts(t)
		mine := append(ask(b.l), api.Record{Stamp: st(1, 1), Call: by(1, 60)}, api.Record{Stamp: st(2, 2), Call: by(2, 61)})
		want := slices.Clone(mine)
		for num := range 9 {
			b.add(by(num%3, 70+num), api.Stamp{})
		}
		b.check()
		wantRecords(t, what, mine, want)
	}
}

// R4: the call and the stamp that were handed in are as they were, also behind later calls; the caller's change of
// them changes no record.
func TestHandedInStays(t *testing.T) {
	b := makeBook(t, 2)
	c, seen := full(api.CallRename, 1, 5), st(6, 3)
	wasCall, wasSeen := c, seen
	b.add(c, seen)
	b.add(full(api.CallWrite, 1, 6), st(9, 0))
	b.add(full(api.CallWrite, 0, 7), b.last[1])
	b.drop(st(7, 0))
	if c != wasCall || seen != wasSeen {
		t.Errorf("%+v, %v, it was %+v, %v", c, seen, wasCall, wasSeen)
	}
	c, seen = by(0, 99), st(50, 1)
	if c == wasCall || seen == wasSeen {
		t.Fatal("unchanged")
	}
	b.check()
}

// meet tells whether a text lies on bytes of another.
func meet(a, b string) bool {
	if a == "" || b == "" {
		return false
	}
	from, other := uintptr(unsafe.Pointer(unsafe.StringData(a))), uintptr(unsafe.Pointer(unsafe.StringData(b)))
	return from < other+uintptr(len(b)) && other < from+uintptr(len(a))
}

// textsOf are the texts of records.
func textsOf(all []api.Record) []string {
	var texts []string
	for _, r := range all {
		texts = append(texts, r.Call.Path, r.Call.Path2, r.Call.Data)
	}
	return texts
}

// R4: the texts of an answer lie neither on those that were handed in nor on another answer's, be it of the same asking.
func TestTextsAreNew(t *testing.T) {
	b := ofTexts(t)
	others := textsOf(b.kept)
	for range 2 {
		for what, ask := range askings() {
			texts := textsOf(ask(b.l))
			for _, text := range texts {
				if slices.ContainsFunc(others, func(other string) bool { return meet(text, other) }) {
					t.Errorf("%s: %q lies on another text", what, text)
				}
			}
			others = append(others, texts...)
		}
	}
}

// R4: a text whose bytes the caller turns later (as only unsafe code can) is kept as it was.
func TestTextsAreNotKept(t *testing.T) {
	l := makeLog(t, 1)
	bytes := []byte("/notes")
	text := unsafe.String(&bytes[0], len(bytes))
	if _, e := l.Add(api.Call{Path: text, Path2: text, Data: text}, api.Stamp{}); e != api.OK {
		t.Fatalf("error %d", e)
	}
	copy(bytes, "/other")
	want := []api.Record{{Stamp: st(1, 0), Call: api.Call{Path: "/notes", Path2: "/notes", Data: "/notes"}}}
	wantRecords(t, "Core", l.Core(0), want)
	wantRecords(t, "Merge", l.Merge(), want)
}
