package refs

// What an object's state is, from one epoch's end to the next.
const (
	moved = 0 // its global part was not 0 at the last end, or was added to since
	quiet = 1 // its global part was 0 at the last end, and was not added to since
	dead  = 2 // for ever
)

// epoch tells how many epochs have ended.
func (r *Refs) epoch(core int) int {
	return r.load(core, r.epochAt())
}

// noteCounted keeps for ever that a core counted an object, since its part may be 0 again.
func (r *Refs) noteCounted(core, obj int) {
	was := r.load(core, r.countedAt(core))
	if now := was | 1<<obj; now != was {
		r.store(core, r.countedAt(core), now)
	}
}

// flushPart adds a core's part of a count to the global one, if it is not 0.
func (r *Refs) flushPart(core, obj int) {
	part := r.load(core, r.partAt(core, obj))
	if part == 0 {
		return
	}
	r.a.Add(core, r.globalAt(obj), part)
	r.store(core, r.partAt(core, obj), 0)
	if r.load(core, r.stateAt(obj)) == quiet {
		r.store(core, r.stateAt(obj), moved)
	}
}

// allFlushed tells whether every core has flushed in this epoch.
func (r *Refs) allFlushed(core int) bool {
	now := r.epoch(core) + 1
	for other := range r.a.Cores() {
		if r.load(core, r.flushedAt(other)) != now {
			return false
		}
	}
	return true
}

// endEpoch looks at each object; as the epoch is another then, no core has flushed in it.
func (r *Refs) endEpoch(core int) {
	counted := r.everCounted(core)
	for obj := range r.objects {
		was := r.load(core, r.stateAt(obj))
		if now := r.stateAtEnd(core, obj, was, counted); now != was {
			r.store(core, r.stateAt(obj), now)
		}
	}
	r.a.Add(core, r.epochAt(), 1)
}

// everCounted gathers which objects any core ever counted, a bit for each.
func (r *Refs) everCounted(core int) int {
	objects := 0
	for other := range r.a.Cores() {
		objects |= r.load(core, r.countedAt(other))
	}
	return objects
}

// stateAtEnd tells what an object's state becomes at an epoch's end.
func (r *Refs) stateAtEnd(core, obj, was, counted int) int {
	switch {
	case was == dead:
		return dead
	case r.load(core, r.globalAt(obj)) != 0:
		return moved
	case was == quiet && counted&(1<<obj) != 0:
		return dead
	}
	return quiet
}
