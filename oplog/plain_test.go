package oplog_test

import (
	"cmp"
	"fmt"
	"math"
	"slices"
	"strings"
	"testing"

	"concourse/api"
	"concourse/oplog"
	"concourse/stamp"
)

// most is the greatest Count of a stamp that may be: 2^40, digit by digit.
const most = 1099511627776

// row is a row of numbers that is the same in each run.
type row uint64

func (r *row) below(n int) int {
	*r = *r*6364136223846793005 + 1442695040888963407
	return int(uint64(*r) >> 33 % uint64(n))
}

func st(count, core int) api.Stamp {
	return api.Stamp{Count: count, Core: core}
}

// by is a call of a core that is told by its number.
func by(core, num int) api.Call {
	return api.Call{Kind: api.CallWrite, Core: core, Num: num}
}

// full is a call with something in every field.
func full(kind, core, num int) api.Call {
	mark := fmt.Sprint(num)
	return api.Call{Kind: kind, Core: core, Fd: num%4 + 1, Off: num + 7, Num: num, Path: "/from" + mark, Path2: "/to" + mark, Data: "\x00\xffdata" + mark}
}

// makeLog gives the logs of so many cores.
func makeLog(t *testing.T, cores int) *oplog.Log {
	t.Helper()
	l, e := oplog.New(cores)
	if l == nil || e != api.OK {
		t.Fatalf("New(%d): error %d", cores, e)
	}
	return l
}

// book is a Log with, beside it, what it must hold by the chapter's words.
type book struct {
	t    *testing.T
	l    *oplog.Log
	last []api.Stamp  // by core
	kept []api.Record // of all cores, in the row in which they were added
}

func makeBook(t *testing.T, cores int) *book {
	t.Helper()
	b := &book{t: t, l: makeLog(t, cores)}
	for core := range cores {
		b.last = append(b.last, st(0, core))
	}
	b.check()
	return b
}

// add adds a call that must find room, and holds its stamp against layer 16's Next.
func (b *book) add(c api.Call, seen api.Stamp) api.Stamp {
	b.t.Helper()
	want := stamp.Next(b.last[c.Core], seen)
	got, e := b.l.Add(c, seen)
	if got != want || e != api.OK {
		b.t.Fatalf("Add(%+v, %v) behind %v: %v, error %d, want %v", c, seen, b.last[c.Core], got, e, want)
	}
	b.last[c.Core] = want
	b.kept = append(b.kept, api.Record{Stamp: want, Call: c})
	return want
}

// refuse adds a call that must be refused.
func (b *book) refuse(c api.Call, seen api.Stamp, want api.Errno) {
	b.t.Helper()
	if got, e := b.l.Add(c, seen); got != (api.Stamp{}) || e != want {
		b.t.Errorf("Add(%+v, %v): %v, error %d, want error %d", c, seen, got, e, want)
	}
}

// drop drops, and holds how many went against the records whose stamps are not above upto.
func (b *book) drop(upto api.Stamp) int {
	b.t.Helper()
	had := len(b.kept)
	b.kept = slices.DeleteFunc(b.kept, func(r api.Record) bool { return byCountAndCore(r.Stamp, upto) <= 0 })
	gone := had - len(b.kept)
	if got := b.l.Drop(upto); got != gone {
		b.t.Fatalf("Drop(%v): %d, want %d", upto, got, gone)
	}
	return gone
}

// byCountAndCore is the order of stamps, apart from layer 16.
func byCountAndCore(a, b api.Stamp) int {
	return cmp.Or(cmp.Compare(a.Count, b.Count), cmp.Compare(a.Core, b.Core))
}

// of are the records that a core must have.
func (b *book) of(core int) []api.Record {
	var own []api.Record
	for _, r := range b.kept {
		if r.Call.Core == core {
			own = append(own, r)
		}
	}
	return own
}

// merged are all records by their stamps; of one stamp, in the row in which they were added.
func (b *book) merged() []api.Record {
	all := slices.Clone(b.kept)
	slices.SortStableFunc(all, func(x, y api.Record) int { return byCountAndCore(x.Stamp, y.Stamp) })
	return all
}

// check holds all that the Log tells against the book.
func (b *book) check() {
	b.t.Helper()
	for core := range b.last {
		wantRecords(b.t, fmt.Sprintf("Core(%d)", core), b.l.Core(core), b.of(core))
		wantLast(b.t, b.l, core, b.last[core])
	}
	wantRecords(b.t, "Merge", b.l.Merge(), b.merged())
	for _, core := range wrongCores(len(b.last)) {
		wantRecords(b.t, fmt.Sprintf("Core(%d)", core), b.l.Core(core), nil)
		wantLast(b.t, b.l, core, api.Stamp{})
	}
}

// wantRecords fails unless these are the records.
func wantRecords(t *testing.T, what string, got, want []api.Record) {
	t.Helper()
	if !slices.Equal(got, want) {
		t.Fatalf("%s: %s, want %s", what, told(got), told(want))
	}
}

// wantLast fails unless this is a core's last stamp.
func wantLast(t *testing.T, l *oplog.Log, core int, want api.Stamp) {
	t.Helper()
	if got := l.Last(core); got != want {
		t.Fatalf("Last(%d): %v, want %v", core, got, want)
	}
}

// told is a list of records as a text: their stamps, and the calls' numbers.
func told(all []api.Record) string {
	words := make([]string, len(all))
	for at, r := range all {
		words[at] = fmt.Sprintf("%d/%d:%d", r.Stamp.Count, r.Stamp.Core, r.Call.Num)
	}
	return strings.Join(words, " ")
}

// wantTold fails unless the records, as a text, are these.
func wantTold(t *testing.T, what string, got []api.Record, want string) {
	t.Helper()
	if told(got) != want {
		t.Errorf("%s: %s, want %s", what, told(got), want)
	}
}

// wrongCores are below 0 and behind the last of so many.
func wrongCores(cores int) []int {
	return []int{-1, -2, -8, cores, cores + 1, cores + 8, 256, 1 << 32, math.MinInt, math.MinInt + 1, math.MaxInt - 1, math.MaxInt}
}

// wrongKinds are below the first kind of calls and behind the last.
func wrongKinds() []int {
	return []int{-1, -2, -17, 17, 18, 32, 99, 256, 1 << 32, math.MinInt, math.MinInt + 1, math.MaxInt - 1, math.MaxInt}
}

// wrongStamps are stamps that may not be.
func wrongStamps() []api.Stamp {
	var all []api.Stamp
	for _, count := range []int{-1, -2, -most, most + 1, most + 2, 2 * most, math.MinInt, math.MaxInt} {
		all = append(all, st(count, 0), st(count, 1), st(count, 7), st(count, 8), st(count, -1))
	}
	for _, core := range []int{-1, -8, 8, 9, 256, 1 << 32, math.MinInt, math.MaxInt} {
		all = append(all, st(0, core), st(1, core), st(most, core))
	}
	return all
}
