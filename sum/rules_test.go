package sum_test

import (
	"bytes"
	"strings"
	"sync"
	"testing"
	"unsafe"

	"concourse/sum"
)

// R5: equal texts have equal sums, wherever their bytes lie, asked once or often.
func TestEqualTextsHaveEqualSums(t *testing.T) {
	g := row(13)
	for n := range 300 {
		s := g.bytes(n)
		want := sum.Of(s)
		around := g.bytes(3) + s + g.bytes(5)
		wantOf(t, s, want)
		wantOf(t, strings.Clone(s), want)
		wantOf(t, around[3:3+n], want)
		wantOf(t, s[:n/2]+s[n/2:], want)
		if sum.Hex(want) != sum.Hex(sum.Of(s)) {
			t.Errorf("Hex(%d): %s, then %s", want, sum.Hex(want), sum.Hex(want))
		}
	}
}

// R4: the bytes of a text stay as they are, those around it too.
func TestTextsStay(t *testing.T) {
	g := row(14)
	memory := []byte(g.bytes(64))
	was := bytes.Clone(memory)
	sum.Of(unsafe.String(&memory[8], 40))
	if !bytes.Equal(memory, was) {
		t.Error("Of has written to its text")
	}
}

// R5: a text is looked at anew, though it lies where another lay.
func TestTextsAreNotKept(t *testing.T) {
	memory := []byte("notes")
	text := unsafe.String(&memory[0], len(memory))
	wantOf(t, text, plainOf("notes"))
	memory[0] = 'v'
	wantOf(t, text, plainOf("votes"))
}

// R4: each answer of Hex is memory of its own.
func TestAnswersShareNoMemory(t *testing.T) {
	var kept []string
	taken := map[*byte]int{}
	for n := range 100 {
		text := sum.Hex(uint64(n % 3))
		kept = append(kept, text)
		taken[unsafe.StringData(text)]++
	}
	if len(taken) != len(kept) {
		t.Errorf("%d answers of Hex lie at %d places", len(kept), len(taken))
	}
	for n, text := range kept {
		if text != plainHex(uint64(n%3)) {
			t.Errorf("answer %d of Hex has become %q", n, text)
		}
	}
}

// R5: several goroutines at one time get what one alone gets.
func TestSumsOfManyAtOneTime(t *testing.T) {
	var group sync.WaitGroup
	for seed := range 8 {
		group.Go(func() {
			g := row(seed)
			for n := range 200 {
				s := g.bytes(n)
				x := plainOf(s)
				wantOf(t, s, x)
				wantHex(t, x, plainHex(x))
			}
		})
	}
	group.Wait()
}
