package trie

import (
	"iter"

	"trellis/api"
	"trellis/store"
)

// walker goes through all entries of a trie.
type walker struct {
	store *store.Store
	// shut is asked behind the last entry of each node below the top, which has so many with those below it.
	shut func(c api.Trie, count int) api.Errno
}

// all may be ranged over: a trie's entries one by one; an error is the last pair's.
func (w walker) all(root api.Link) iter.Seq2[api.Entry, api.Errno] {
	return func(yield func(api.Entry, api.Errno) bool) {
		c, top, e := readRoot(w.store, root)
		if e != api.OK {
			yield(api.Entry{}, e)
			return
		}
		for y, e := range w.within(place{widths: c}, top) {
			if !yield(y, e) {
				return
			}
		}
	}
}

// within may be ranged over: the entries of a node and of those below it.
func (w walker) within(p place, n *node[entry]) iter.Seq2[api.Entry, api.Errno] {
	return func(yield func(api.Entry, api.Errno) bool) {
		for _, x := range n.elements {
			for y, e := range w.of(p, x) {
				if !yield(y, e) || e != api.OK {
					return
				}
			}
		}
	}
}

// of may be ranged over: the entries of an element of the node at a place.
func (w walker) of(p place, x element[entry]) iter.Seq2[api.Entry, api.Errno] {
	if !x.isBucket() {
		return w.behind(p.below(x.slice), x.link)
	}
	return func(yield func(api.Entry, api.Errno) bool) {
		for _, y := range x.bucket {
			if !yield(y.told(), api.OK) {
				return
			}
		}
	}
}

// behind may be ranged over: the entries of the node behind a link, which is read when the range begins.
func (w walker) behind(p place, l api.Link) iter.Seq2[api.Entry, api.Errno] {
	return func(yield func(api.Entry, api.Errno) bool) {
		n, e := readNode(w.store, p, l)
		if e != api.OK {
			yield(api.Entry{}, e)
			return
		}
		count := 0
		for y, e := range w.within(p, n) {
			if !yield(y, e) || e != api.OK {
				return
			}
			count++
		}
		if e := w.shut(p.widths, count); e != api.OK {
			yield(api.Entry{}, e)
		}
	}
}
