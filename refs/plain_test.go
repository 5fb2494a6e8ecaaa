package refs_test

import (
	"slices"
	"testing"

	"concourse/api"
	"concourse/arena"
	"concourse/refs"
)

// row is a row of numbers that is the same in each run.
type row uint64

func (r *row) below(n int) int {
	*r = *r*6364136223846793005 + 1442695040888963407
	return int(uint64(*r) >> 33 % uint64(n))
}

// end is what the chapter asks after at an epoch's end, object by object.
type end struct {
	global  []int
	added   []bool // by a Flush within the epoch that ended
	counted []bool // ever, up to this end
}

// plain is what the chapter says counts keep, in the plainest way: every end is kept, and Dead is looked up among them.
type plain struct {
	parts   [][]int // by core, by object
	global  []int
	added   []bool
	counted []bool
	flushed []bool
	ends    []end
}

func makePlain(cores, objects int) *plain {
	p := &plain{
		parts: make([][]int, cores), global: make([]int, objects),
		added: make([]bool, objects), counted: make([]bool, objects), flushed: make([]bool, cores),
	}
	for core := range cores {
		p.parts[core] = make([]int, objects)
	}
	return p
}

func (p *plain) count(core, obj, by int) {
	p.parts[core][obj] += by
	p.counted[obj] = true
}

func (p *plain) flush(core int) {
	for obj, part := range p.parts[core] {
		p.global[obj] += part
		p.added[obj] = p.added[obj] || part != 0
		p.parts[core][obj] = 0
	}
	p.flushed[core] = true
	if slices.Contains(p.flushed, false) {
		return
	}
	p.ends = append(p.ends, end{slices.Clone(p.global), slices.Clone(p.added), slices.Clone(p.counted)})
	clear(p.added)
	clear(p.flushed)
}

func (p *plain) total(obj int) int {
	sum := p.global[obj]
	for _, parts := range p.parts {
		sum += parts[obj]
	}
	return sum
}

func (p *plain) dead() []int {
	var objects []int
	for obj := range p.global {
		for k := 1; k < len(p.ends); k++ {
			one, two := p.ends[k-1], p.ends[k]
			if one.global[obj] == 0 && two.global[obj] == 0 && !two.added[obj] && two.counted[obj] {
				objects = append(objects, obj)
				break
			}
		}
	}
	return objects
}

// book is counts with the plain ones beside them, each call held against those.
type book struct {
	t              *testing.T
	a              *arena.Arena
	r              *refs.Refs
	p              *plain
	from           int
	cores, objects int
}

// wordsOf is how many words the chapter gives counts of so many objects.
func wordsOf(cores, objects int) int { return (objects + 2) * (cores + 2) }

// makeBook gives counts within an arena that has so many words ahead of them and behind them, none of them 0.
func makeBook(t *testing.T, cores, objects, ahead, behind int) *book {
	t.Helper()
	a := makeArena(t, ahead+wordsOf(cores, objects)+behind, cores)
	r, e := refs.New(a, ahead, objects)
	if e != api.OK || r == nil {
		t.Fatalf("New of %d cores, from %d, %d objects: error %d", cores, ahead, objects, e)
	}
	b := &book{t: t, a: a, r: r, p: makePlain(cores, objects), from: ahead, cores: cores, objects: objects}
	b.want()
	return b
}

// makeArena gives an arena of so many words and cores, each word with a number of its own, none of them 0.
func makeArena(t *testing.T, words, cores int) *arena.Arena {
	t.Helper()
	a, e := arena.New(words, cores)
	if e != api.OK {
		t.Fatalf("arena.New(%d, %d): error %d", words, cores, e)
	}
	for at := range words {
		a.Store(0, at, ownNumber(at))
	}
	a.Clear(0)
	return a
}

// ownNumber has high and low bits set, of every place others.
func ownNumber(at int) int { return -1 - at*0x1_0001_0001 }

// clearTraces forgets what every core touched.
func clearTraces(a *arena.Arena) {
	for core := range a.Cores() {
		a.Clear(core)
	}
}

// allWords reads every word; it leaves the traces empty.
func allWords(a *arena.Arena) []int {
	words := make([]int, a.Words())
	for at := range words {
		words[at], _ = a.Load(0, at)
	}
	clearTraces(a)
	return words
}

func (b *book) inc(core, obj int) {
	b.t.Helper()
	if e := b.r.Inc(core, obj); e != api.OK {
		b.t.Fatalf("Inc(%d, %d): error %d", core, obj, e)
	}
	b.p.count(core, obj, 1)
	b.want()
}

func (b *book) dec(core, obj int) {
	b.t.Helper()
	if e := b.r.Dec(core, obj); e != api.OK {
		b.t.Fatalf("Dec(%d, %d): error %d", core, obj, e)
	}
	b.p.count(core, obj, -1)
	b.want()
}

// flush flushes these cores, in this row.
func (b *book) flush(cores ...int) {
	b.t.Helper()
	for _, core := range cores {
		if e := b.r.Flush(core); e != api.OK {
			b.t.Fatalf("Flush(%d): error %d", core, e)
		}
		b.p.flush(core)
		b.want()
	}
}

// turn flushes every core, the last one first, so that an epoch ends.
func (b *book) turn() {
	b.t.Helper()
	for core := b.cores - 1; core >= 0; core-- {
		b.flush(core)
	}
}

// want fails unless all that can be asked is as the plain counts say.
func (b *book) want() {
	b.t.Helper()
	for obj := range b.objects {
		global, e := b.r.Global(obj)
		total, f := b.r.Total(obj)
		if e != api.OK || f != api.OK || global != b.p.global[obj] || total != b.p.total(obj) {
			b.t.Fatalf("object %d: Global %d, error %d, Total %d, error %d, want %d and %d", obj, global, e, total, f, b.p.global[obj], b.p.total(obj))
		}
	}
	if b.r.Epoch() != len(b.p.ends) {
		b.t.Fatalf("Epoch %d, want %d", b.r.Epoch(), len(b.p.ends))
	}
	if got := b.r.Dead(); !slices.Equal(got, b.p.dead()) {
		b.t.Fatalf("epoch %d: Dead %v, want %v", b.r.Epoch(), got, b.p.dead())
	}
}

// wantDead fails unless just these are told dead; the plain counts are held against it too.
func (b *book) wantDead(objects ...int) {
	b.t.Helper()
	b.want()
	if got := b.r.Dead(); !slices.Equal(got, objects) {
		b.t.Fatalf("epoch %d: Dead %v, want %v", b.r.Epoch(), got, objects)
	}
}

// wantCounts fails unless an object's global part and its sum are these.
func (b *book) wantCounts(obj, global, total int) {
	b.t.Helper()
	g, e := b.r.Global(obj)
	n, f := b.r.Total(obj)
	if g != global || n != total || e != api.OK || f != api.OK {
		b.t.Fatalf("object %d: Global %d, error %d, Total %d, error %d, want %d and %d", obj, g, e, n, f, global, total)
	}
}

// close fails if words ahead of the counts' or behind them were written to.
func (b *book) close() {
	b.t.Helper()
	to := b.from + wordsOf(b.cores, b.objects)
	for at, v := range allWords(b.a) {
		if (at < b.from || at >= to) && v != ownNumber(at) {
			b.t.Fatalf("word %d, outside %d to %d, is %d", at, b.from, to-1, v)
		}
	}
}
