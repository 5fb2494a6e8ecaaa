package dir

import (
	"concourse/api"
	"concourse/name"
)

// The words are buckets of MaxSlots slots, one behind the other. A slot is an
// entry's number and the words of its name; all of them are 0 where it is free.
// A bucket has no more words than MaxTouch, so that what asks or changes one
// bucket can be one step of the layers above.
const (
	slotWords   = 1 + nameWords
	bucketWords = api.MaxSlots * slotWords
)

// nowhere is the place of a slot that a bucket has not.
const nowhere = -1

// anyCore is in whose name New writes what all cores share.
const anyCore = 0

// slot is what a slot's words hold; the zero one is free.
type slot struct {
	num  int
	name spelling
}

// bucket is what a bucket's words held when they were read.
type bucket struct {
	number int
	slots  [api.MaxSlots]slot
}

// find tells which slot has a name, and, of the spelling of none, which is free.
func (b bucket) find(wanted spelling) int {
	for at, s := range b.slots {
		if s.name == wanted {
			return at
		}
	}
	return nowhere
}

// bucketOf reads the bucket of a text.
func (d *Dir) bucketOf(core int, text string) bucket {
	return d.read(core, name.Bucket(text))
}

// read reads a bucket whole.
func (d *Dir) read(core int, number int) bucket {
	b := bucket{number: number}
	for i := range b.slots {
		at := d.slotAt(number, i)
		b.slots[i].num = d.load(core, at)
		for k := range nameWords {
			b.slots[i].name[k] = d.load(core, at+1+k)
		}
	}
	return b
}

// put writes a slot of a bucket.
func (d *Dir) put(core int, b bucket, i int, s slot) {
	at := d.slotAt(b.number, i)
	d.store(core, at, s.num)
	for k, word := range s.name {
		d.store(core, at+1+k, word)
	}
}

// clear lets every slot be free.
func (d *Dir) clear() {
	for number := range api.Buckets {
		for i := range api.MaxSlots {
			d.put(anyCore, bucket{number: number}, i, slot{})
		}
	}
}

// slotAt is where a slot of a bucket lies.
func (d *Dir) slotAt(number, i int) int {
	return d.from + number*bucketWords + i*slotWords
}

// load reads a word of the layer's own, so the arena does not refuse it.
func (d *Dir) load(core, at int) int {
	word, _ := d.a.Load(core, at)
	return word
}

func (d *Dir) store(core, at, v int) {
	d.a.Store(core, at, v)
}

// wrong tells why a core can't call with these names: OK, if it can.
func (d *Dir) wrong(core int, names ...string) api.Errno {
	if d == nil {
		return api.ErrNil
	}
	if core < 0 || core >= d.a.Cores() {
		return api.ErrDirForm
	}
	for _, text := range names {
		if !name.May(text) {
			return api.ErrDirForm
		}
	}
	return api.OK
}
