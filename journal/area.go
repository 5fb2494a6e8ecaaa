package journal

import (
	"concourse/api"
	"concourse/sum"
)

// A journal's first line is its head; the lines behind it are two areas, which texts are
// written to by turns. One word of the head says which area has the text, so that a
// single store brings the next text in the place of the one ahead. The words of a last
// line that is not whole are left alone: a flush would take along words of others.
const (
	headWords = api.LineWords
	areas     = 2
)

// An area's words: how many bytes its text has, the text's sum, the text.
const (
	sizeAt = iota
	sumAt
	textAt
)

// mark tells a head from other words.
const mark uint64 = 0xc0c0_9a7e_51de_0000

// lying is what lies somewhere: in a head sealed, in an area whole, or else blank.
type lying any

// blank is what is neither a head nor a text.
type blank struct{}

// sealed is a head that says which area has the text.
type sealed struct {
	area int
}

// whole is a text that stands in its area as it was written.
type whole struct {
	text string
}

// seal is the head's word for an area. Journals of unlike sizes have unlike ones.
func (j *Journal) seal(area int) uint64 {
	return mark + uint64(areas*j.words+area)
}

// head tells what lies in the head.
func (j *Journal) head() lying {
	word := j.load(j.from)
	for area := range areas {
		if word == j.seal(area) {
			return sealed{area}
		}
	}
	return blank{}
}

// look tells what lies in the area that the head names.
func (j *Journal) look() lying {
	now, ok := j.head().(sealed)
	if !ok {
		return blank{}
	}
	at := j.areaAt(now.area)
	size := j.load(at + sizeAt)
	if size > uint64(j.room()) {
		return blank{}
	}
	text := j.text(at+textAt, int(size))
	if sum.Of(text) != j.load(at+sumAt) {
		return blank{}
	}
	return whole{text}
}

// replace lets s be the text. Till the last store the head names the area of the text
// ahead, which stays as it was.
func (j *Journal) replace(s string) {
	next := 0
	if now, ok := j.head().(sealed); ok {
		next = (now.area + 1) % areas
	}
	j.fill(j.areaAt(next), s)
	j.mem.Fence() // the text must last ahead of the word that names it
	j.mem.Store(j.from, j.seal(next))
	j.flush(j.from, 1)
	j.mem.Fence()
}

// areaAt tells where an area begins, at a line.
func (j *Journal) areaAt(area int) int {
	lines := (j.words - headWords) / areas / api.LineWords
	return j.from + headWords + area*lines*api.LineWords
}

// fill writes a text to the area at a place, and sends its lines on their way.
func (j *Journal) fill(at int, s string) {
	j.mem.Store(at+sizeAt, uint64(len(s)))
	j.mem.Store(at+sumAt, sum.Of(s))
	count := textAt
	for word := range packed(s) {
		j.mem.Store(at+count, word)
		count++
	}
	j.flush(at, count)
}

// flush sends the lines of so many words on their way.
func (j *Journal) flush(at, count int) {
	for line := at / api.LineWords; line*api.LineWords < at+count; line++ {
		j.mem.Flush(line)
	}
}

// load gives a word of the journal's place, of which the memory has each.
func (j *Journal) load(at int) uint64 {
	word, _ := j.mem.Load(at)
	return word
}

// text gives so many bytes that stand in words from a place on.
func (j *Journal) text(at, size int) string {
	bytes := make([]byte, 0, size+wordBytes)
	for ; len(bytes) < size; at++ {
		bytes = unpack(bytes, j.load(at))
	}
	return string(bytes[:size])
}
