package change

import (
	"cmp"
	"iter"
	"slices"

	"trellis/api"
	"trellis/store"
	"trellis/trie"
)

// reader reads the nodes of tries of these widths.
type reader struct {
	store  *store.Store
	widths api.Trie
}

// open tells a reader of a trie, and the elements of its root.
func open(s *store.Store, root api.Link) (reader, []api.Element, api.Errno) {
	c, e := trie.Widths(s, root)
	if e != api.OK {
		return reader{}, nil, e
	}
	top, e := trie.Node(s, c, nil, root)
	return reader{s, c}, top, e
}

// node tells the elements of the node behind a link, to which a path of slices leads.
func (r reader) node(path []int, l api.Link) ([]api.Element, api.Errno) {
	return trie.Node(r.store, r.widths, path, l)
}

// unlike tells, by the elements of two roots, the entries of each trie, by keys; left out are those that stand in both behind one link.
func (r reader) unlike(a, b []api.Element) ([]api.Entry, []api.Entry, api.Errno) {
	var had, has []api.Entry
	for x, e := range r.spots(a, b) {
		if e == api.OK {
			e = r.each(x.path, x.a, func(y api.Entry) { had = append(had, y) })
		}
		if e == api.OK {
			e = r.each(x.path, x.b, func(y api.Entry) { has = append(has, y) })
		}
		if e != api.OK {
			return nil, nil, e
		}
	}
	slices.SortFunc(had, entryOrder)
	slices.SortFunc(has, entryOrder)
	return had, has, api.OK
}

// each does something with each entry of an element to which a path leads: a bucket's, or all that are behind a link.
func (r reader) each(path []int, x api.Element, do func(api.Entry)) api.Errno {
	for _, y := range x.Entries {
		do(y)
	}
	if !isLink(x) {
		return api.OK
	}
	n, e := r.node(path, x.Below)
	if e != api.OK {
		return e
	}
	for _, y := range n {
		if e := r.each(longer(path, y), y, do); e != api.OK {
			return e
		}
	}
	return api.OK
}

// spot: what two tries have at the end of one path, where at most one of them has a link.
type spot struct {
	path []int
	a, b api.Element
}

// spots may be ranged over: two tries side by side, by the elements of their roots: where both have a link, both nodes are read, if it is not the same. An error is the last pair's.
func (r reader) spots(a, b []api.Element) iter.Seq2[spot, api.Errno] {
	return func(yield func(spot, api.Errno) bool) { r.within(nil, a, b, yield) }
}

// within yields the spots of two nodes to which a path leads; whether to go on.
func (r reader) within(path []int, a, b []api.Element, yield func(spot, api.Errno) bool) bool {
	for p := range abreast(a, b, sliceOrder) {
		x := spot{longer(path, p.either()), p.a, p.b}
		if !isLink(x.a) || !isLink(x.b) {
			if !yield(x, api.OK) {
				return false
			}
		} else if x.a.Below != x.b.Below {
			if !r.behind(x, yield) {
				return false
			}
		}
	}
	return true
}

// behind yields the spots of the nodes behind two links; whether to go on.
func (r reader) behind(x spot, yield func(spot, api.Errno) bool) bool {
	a, e := r.node(x.path, x.a.Below)
	if e != api.OK {
		yield(spot{}, e)
		return false
	}
	b, e := r.node(x.path, x.b.Below)
	if e != api.OK {
		yield(spot{}, e)
		return false
	}
	return r.within(x.path, a, b, yield)
}

// longer tells the path of an element of the node to which a path leads, in memory of its own.
func longer(path []int, x api.Element) []int { return append(slices.Clone(path), x.Slice) }

// isLink tells whether an element is one; a bucket is none, nor is nothing.
func isLink(x api.Element) bool { return x.Below != api.Link{} }

// sliceOrder is the order of a node's elements.
func sliceOrder(a, b api.Element) int { return cmp.Compare(a.Slice, b.Slice) }
