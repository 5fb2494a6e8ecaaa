package memfs

import (
	"concourse/api"
	"concourse/arena"
	"concourse/fds"
	"concourse/inum"
)

// root is the number of the directory that paths begin at.
const root = 1

// The arena's words: the cores' descriptors (layer 12), how many numbers each core was
// given (layer 10), and words for each number that an inode may have.
const (
	fdsAt    = 0
	numsAt   = fdsAt + api.MaxFds*api.MaxCores
	inodesAt = numsAt + api.MaxCores
	inodes   = 1 + api.MaxCores*api.MaxMade // the root, and what cores may make
	allWords = inodesAt + inodes*inodeWords
)

// An inode's words: a directory's buckets; a file's size, its pages, and for each core
// how many entries it gave the file. All of them name things but those of entries, which
// are counts. As a bucket, a page, a size is one word, a step reaches all that any call
// on names has to see at one time, and of a file half its pages.
const (
	bucketsOf  = 0
	sizeOf     = bucketsOf + api.Buckets
	pagesOf    = sizeOf + 1
	linksOf    = pagesOf + api.MaxPages
	inodeWords = linksOf + api.MaxCores
)

// wordOf is the place of one of an inode's words.
func wordOf(num, which int) int {
	return inodesAt + (num-root)*inodeWords + which
}

// What words name. None of these ever changes: a word that shall name another one gets
// another number.
type (
	// thing is a bucket, a length, a page or a page that is held.
	thing any

	// bucket is the entries of a directory's bucket.
	bucket []entry

	// entry is a name, and the number and the kind of what it leads to.
	entry struct {
		api.Entry
		dir bool
	}

	// length is how many bytes a file has.
	length int

	// page is a page's bytes; those behind the file's end are 0.
	page [api.PageBytes]byte

	// held is a page that a call is about to turn: nobody else may see or turn it till
	// that call names the page that comes of it.
	held struct{ page }
)

// shared is what calls share: an arena's words, and the things that they name.
type shared struct {
	words  *arena.Arena
	fds    *fds.Fds
	nums   *inum.Nums
	things map[int]thing
}

// newShared makes what is shared by so many cores, of which there are 1 to MaxCores: no
// layer refuses its place.
func newShared(cores int) shared {
	s := shared{things: map[int]thing{}}
	s.words, _ = arena.New(allWords, cores)
	s.fds, _ = fds.New(s.words, fdsAt)
	s.nums, _ = inum.New(s.words, numsAt)
	return s
}

// by gives a core's view of what is shared.
func (s *shared) by(core int) view {
	return view{shared: s, core: core}
}

// view is what is shared as a core touches it.
type view struct {
	*shared
	core int
}

// load gives a word.
func (v view) load(at int) int {
	word, _ := v.words.Load(v.core, at)
	return word
}

// look gives the thing that a word names: nil of a word that never named one.
func (v view) look(at int) thing {
	return v.things[v.load(at)]
}

// let lets a word name a thing. Its number is one by which no word named a thing before:
// so a word that is what it was named one thing all the time.
func (v view) let(at int, x thing) {
	was := v.load(at)
	next := max(was, at) + allWords
	delete(v.things, was)
	v.things[next] = x
	v.words.Store(v.core, at, next)
}
