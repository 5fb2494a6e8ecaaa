package trace_test

import (
	"slices"
	"sync"
	"testing"

	"concourse/api"
	"concourse/trace"
)

// askings are the calls that hand out places.
func askings() map[string]func([]api.Access) []int {
	return map[string]func([]api.Access) []int{"Words": trace.Words, "Writes": trace.Writes}
}

// some are traces of all kinds, with rows of places that rise, fall and do neither.
func some() [][]api.Access {
	r := row(8)
	all := [][]api.Access{
		of(write(4)), of(read(1), write(2), write(3)), of(write(3), read(2), write(1)), of(write(2), write(2)),
		of(write(5), write(1), write(9), write(3), write(7)),
	}
	for range 40 {
		all = append(all, r.trace(1+r.below(80), upTo(50), 2))
	}
	return all
}

// spoil writes over all places of an answer, in its spare room too.
func spoil(places []int) {
	whole := places[:cap(places)]
	for i := range whole {
		whole[i] = -777 - i
	}
}

// R4: a trace stays as it was, with the room behind it and what lies ahead of it.
func TestTracesStay(t *testing.T) {
	for _, a := range some() {
		memory := slices.Concat(of(write(71), read(72)), a, of(write(73), read(0), write(-1)))
		part := memory[2 : 2+len(a)]
		was := slices.Clone(memory)
		for range 2 {
			trace.Words(part)
			trace.Writes(part)
			trace.Meet(part, a)
			trace.Meet(a, part)
			trace.Meet(part, part)
			trace.Meet(part[:len(a)/2], part[len(a)/2:])
			spoil(trace.Words(part))
			spoil(trace.Writes(part))
		}
		if !slices.Equal(memory, was) {
			t.Fatalf("%v, it was %v", memory, was)
		}
	}
}

// answer is what a call handed out, and what it must be.
type answer struct {
	what      string
	got, want []int
}

// answersOf asks each call twice of one trace.
func answersOf(a []api.Access) []answer {
	words, writes := plainPlaces(a, false), plainPlaces(a, true)
	return []answer{
		{"Words", trace.Words(a), words}, {"Writes", trace.Writes(a), writes},
		{"Words again", trace.Words(a), words}, {"Writes again", trace.Writes(a), writes},
	}
}

// R4: an answer is the caller's own: to write over it changes no trace, no other answer and none to come.
func TestAnswersAreTheCallers(t *testing.T) {
	for _, a := range some() {
		was := slices.Clone(a)
		for first := range answersOf(a) {
			answers := answersOf(a)
			for i := range answers {
				spoil(answers[(first+i)%len(answers)].got)
				for j := i + 1; j < len(answers); j++ {
					if x := answers[(first+j)%len(answers)]; !slices.Equal(x.got, x.want) {
						t.Fatalf("%s of %v has turned with another answer: %v", x.what, a, x.got)
					}
				}
			}
		}
		if !slices.Equal(a, was) {
			t.Fatalf("%v, it was %v", a, was)
		}
		wantPlain(t, a)
		wantMeet(t, a, a, len(plainPlaces(a, true)) > 0)
	}
}

// R4: what was handed out stays, whatever is asked behind it.
func TestAnswersStay(t *testing.T) {
	for what, ask := range askings() {
		var kept, was [][]int
		for _, a := range some() {
			got := ask(a)
			kept, was = append(kept, got), append(was, slices.Clone(got))
			trace.Meet(a, some()[0])
		}
		for i := range kept {
			if !slices.Equal(kept[i], was[i]) {
				t.Errorf("%s, answer %d: %v, it was %v", what, i, kept[i], was[i])
			}
		}
	}
}

// R4: what the caller puts behind an answer, into its spare room, is told by nobody and stays as well.
func TestSpareRoomIsTheCallers(t *testing.T) {
	for what, ask := range askings() {
		for _, a := range some() {
			one, two := append(ask(a), 900, 901), append(ask(a), 902, 903)
			want := plainPlaces(a, what == "Writes")
			if !slices.Equal(one, slices.Concat(want, []int{900, 901})) || !slices.Equal(two, slices.Concat(want, []int{902, 903})) {
				t.Fatalf("%s of %v: %v and %v", what, a, one, two)
			}
			wantPlain(t, a)
		}
	}
}

// R4, R5: a trace is looked at anew, though it lies where another lay, and its change changes no answer.
func TestTracesAreNotKept(t *testing.T) {
	a := of(read(3), write(1), read(8))
	b := of(read(1))
	words, writes := trace.Words(a), trace.Writes(a)
	wantMeet(t, a, b, true)
	a[0], a[1], a[2] = write(5), read(1), write(4)
	if !slices.Equal(words, []int{1, 3, 8}) || !slices.Equal(writes, []int{1}) {
		t.Errorf("%v and %v have turned with the trace", words, writes)
	}
	wantPlaces(t, a, []int{1, 4, 5}, []int{4, 5})
	wantMeet(t, a, b, false)
	b[0] = read(4)
	wantMeet(t, a, b, true)
}

// R5: the calls answer the same again, and from several goroutines at one time.
func TestAnswersAreTheSameAgain(t *testing.T) {
	all := some()
	var group sync.WaitGroup
	for worker := range 8 {
		group.Go(func() {
			for i := range all {
				a, b := all[(i+worker)%len(all)], all[(i*7+worker)%len(all)]
				wantPlain(t, a)
				wantMeet(t, a, b, plainMeet(a, b))
			}
		})
	}
	group.Wait()
}
