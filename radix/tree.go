package radix

import "concourse/api"

// The words are nodes of Fanout places, level by level: the root is node 0, and
// each level has Fanout times as many as the one above. A place of an inner
// node holds the number of the node below it, a place of a leaf a page's number.
// All nodes are there from the beginning on: no Set makes one, so two Sets, even
// of pages that had no number yet, never write a word on the other's way.
const (
	root  = 0
	inner = (api.MaxPages/api.Fanout - 1) / (api.Fanout - 1)
	nodes = (api.MaxPages - 1) / (api.Fanout - 1)
)

// anyCore is in whose name New writes what all cores share.
const anyCore = 0

// grow lets the inner nodes name those below them, and the leaves hold 0.
func (r *Radix) grow() {
	for node := range nodes {
		for digit := range api.Fanout {
			below := 0
			if node < inner {
				below = node*api.Fanout + 1 + digit
			}
			r.store(anyCore, r.placeAt(node, digit), below)
		}
	}
}

// find goes down by a page's digits, the highest first, to the place of its number.
func (r *Radix) find(core, page int) int {
	node := root
	for unit := api.MaxPages / api.Fanout; unit > 1; unit /= api.Fanout {
		node = r.load(core, r.placeAt(node, page/unit%api.Fanout))
	}
	return r.placeAt(node, page%api.Fanout)
}

// placeAt is where a node's place lies.
func (r *Radix) placeAt(node, digit int) int {
	// Modulo, so that no number that somebody else stored leads outside.
	within := int(uint(node) % nodes)
	return r.from + within*api.Fanout + digit
}

// load reads a word of the layer's own, so the arena does not refuse it.
func (r *Radix) load(core, at int) int {
	word, _ := r.a.Load(core, at)
	return word
}

func (r *Radix) store(core, at, v int) {
	r.a.Store(core, at, v)
}
