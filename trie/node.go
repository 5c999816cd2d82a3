package trie

import (
	"cmp"
	"iter"
	"slices"

	"trellis/api"
)

// element: what a node has for a slice: a bucket of entries, of whatever kind, or the link of a node below. Where that node has been read or made, it stands in the place of its link.
type element[E any] struct {
	slice  int
	link   api.Link
	node   *node[E]
	bucket []E
}

// node: its elements, by their slices.
type node[E any] struct {
	elements []element[E]
}

// isBucket tells whether an element is one: a link's element has no entries, a bucket at least one.
func (x element[E]) isBucket() bool { return len(x.bucket) > 0 }

// find tells where the element of a slice stands, or would stand; whether there is one.
func (n *node[E]) find(slice int) (int, bool) {
	return slices.BinarySearchFunc(n.elements, slice, func(x element[E], slice int) int {
		return cmp.Compare(x.slice, slice)
	})
}

// drop takes the element at a place out.
func (n *node[E]) drop(at int) { n.elements = slices.Delete(n.elements, at, at+1) }

// entries may be ranged over: those of the node's own buckets.
func (n *node[E]) entries() iter.Seq[E] {
	return func(yield func(E) bool) {
		for _, x := range n.elements {
			for _, y := range x.bucket {
				if !yield(y) {
					return
				}
			}
		}
	}
}

// gathered tells the entries of a node that is no more than a bucket of so many, in its elements' order; whether it is.
func (n *node[E]) gathered(most int) ([]E, bool) {
	for _, x := range n.elements {
		if !x.isBucket() {
			return nil, false
		}
	}
	var all []E
	for y := range n.entries() {
		if len(all) == most {
			return nil, false
		}
		all = append(all, y)
	}
	return all, true
}

// spread tells the node of entries, bucket by bucket: those of one slice are in the order in which they come.
func spread[E any](entries []E, sliceOf func(E) int) *node[E] {
	n := &node[E]{}
	for _, y := range entries {
		slice := sliceOf(y)
		at, is := n.find(slice)
		if !is {
			n.elements = slices.Insert(n.elements, at, element[E]{slice: slice})
		}
		n.elements[at].bucket = append(n.elements[at].bucket, y)
	}
	return n
}
