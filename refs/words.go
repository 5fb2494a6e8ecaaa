package refs

// The words are rows of one length: one for each core, which holds its parts,
// which objects it ever counted, and when it flushed; one of the global parts
// and the epoch; one of the objects' states.

// anyCore is in whose name the calls that have no core read what all cores share.
const anyCore = 0

func (r *Refs) rows() int {
	return r.a.Cores() + 2
}

func (r *Refs) rowWords() int {
	return r.objects + 2
}

func (r *Refs) rowAt(row int) int {
	return r.from + row*r.rowWords()
}

func (r *Refs) partAt(core, obj int) int {
	return r.rowAt(core) + obj
}

func (r *Refs) countedAt(core int) int {
	return r.rowAt(core) + r.objects
}

func (r *Refs) flushedAt(core int) int {
	return r.rowAt(core) + r.objects + 1
}

func (r *Refs) globalAt(obj int) int {
	return r.rowAt(r.a.Cores()) + obj
}

func (r *Refs) epochAt() int {
	return r.rowAt(r.a.Cores()) + r.objects
}

func (r *Refs) stateAt(obj int) int {
	return r.rowAt(r.a.Cores()+1) + obj
}

// load reads a word of the layer's own, so the arena does not refuse it.
func (r *Refs) load(core, at int) int {
	word, _ := r.a.Load(core, at)
	return word
}

func (r *Refs) store(core, at, v int) {
	r.a.Store(core, at, v)
}

// clear lets all words be 0, a core's row in its own name.
func (r *Refs) clear() {
	for row := range r.rows() {
		core := anyCore
		if row < r.a.Cores() {
			core = row
		}
		for i := range r.rowWords() {
			r.store(core, r.rowAt(row)+i, 0)
		}
	}
}
