package trie

import (
	"slices"

	"trellis/api"
	"trellis/store"
)

// tree: a trie as far as it has been read: each node that was read, or made since, stands in the place of its link.
type tree struct {
	store  *store.Store
	widths api.Trie
	top    *node[entry]
}

// open tells the tree of a root, of which nothing else has been read.
func open(s *store.Store, root api.Link) (*tree, api.Errno) {
	c, top, e := readRoot(s, root)
	if e != api.OK {
		return nil, e
	}
	return &tree{s, c, top}, api.OK
}

// fetch reads the nodes on a path that have not been read; its end is told: the last one's place and the node.
func (t *tree) fetch(path [32]byte) (place, *node[entry], api.Errno) {
	p, n := place{widths: t.widths}, t.top
	for {
		slice := p.slice(path)
		at, is := n.find(slice)
		if !is || n.elements[at].isBucket() {
			return p, n, api.OK
		}
		x := &n.elements[at]
		p = p.below(slice)
		if x.node == nil {
			read, e := readNode(t.store, p, x.link)
			if e != api.OK {
				return place{}, nil, e
			}
			x.node = read
		}
		n = x.node
	}
}

// get tells a key's value, the nodes on whose path it reads.
func (t *tree) get(key entry) (api.Value, bool, api.Errno) {
	p, n, e := t.fetch(key.path)
	if e != api.OK {
		return api.Value{}, false, e
	}
	at, is := n.find(p.slice(key.path))
	if !is {
		return api.Value{}, false, api.OK
	}
	bucket := n.elements[at].bucket
	at, is = slices.BinarySearchFunc(bucket, key, byKey)
	if !is {
		return api.Value{}, false, api.OK
	}
	return bucket[at].value, true, api.OK
}

// take takes a key out of a node at a level, whose path has been read; whether it was there.
func (t *tree) take(n *node[entry], level int, key entry) bool {
	at, is := n.find(sliceOf(key.path, t.widths.Width, level))
	if !is {
		return false
	}
	x := &n.elements[at]
	if x.node != nil {
		if !t.take(x.node, level+1, key) {
			return false
		}
		if bucket, small := x.node.gathered(t.widths.Bucket); small {
			slices.SortFunc(bucket, byKey)
			*x = element[entry]{slice: x.slice, bucket: bucket}
		}
	} else {
		i, is := slices.BinarySearchFunc(x.bucket, key, byKey)
		if !is {
			return false
		}
		x.bucket = slices.Delete(x.bucket, i, i+1)
	}
	if x.node == nil && !x.isBucket() {
		n.drop(at)
	}
	return true
}

// put lays an entry into a node at a level, whose path has been read.
func (t *tree) put(n *node[entry], level int, y entry) api.Errno {
	slice := sliceOf(y.path, t.widths.Width, level)
	at, is := n.find(slice)
	if !is {
		n.elements = slices.Insert(n.elements, at, element[entry]{slice: slice, bucket: []entry{y}})
		return api.OK
	}
	x := &n.elements[at]
	if x.node != nil {
		return t.put(x.node, level+1, y)
	}
	i, is := slices.BinarySearchFunc(x.bucket, y, byKey)
	if is {
		x.bucket[i] = y
		return api.OK
	}
	x.bucket = slices.Insert(x.bucket, i, y)
	return t.settle(x, level)
}

// settle makes of an element whose bucket, in a node at a level, is too great the node of its keys.
func (t *tree) settle(x *element[entry], level int) api.Errno {
	if len(x.bucket) <= t.widths.Bucket {
		return api.OK
	}
	level++
	if level == levels(t.widths) {
		return api.ErrTrieDepth
	}
	x.node = spread(x.bucket, func(y entry) int { return sliceOf(y.path, t.widths.Width, level) })
	x.bucket = nil
	for i := range x.node.elements {
		if e := t.settle(&x.node.elements[i], level); e != api.OK {
			return e
		}
	}
	return api.OK
}

// add lays all nodes of the tree into the store; the root's link.
func (t *tree) add() (api.Link, api.Errno) {
	var blocks []api.Block
	lay := func(items []api.Value) api.Link {
		b := blockOf(items)
		blocks = append(blocks, b)
		return b.Link
	}
	t.link(t.top, func(n *node[entry]) api.Link { return lay(nodeForm(t.widths, n)) })
	root := lay(rootForm(t.widths, t.top))
	if _, e := t.store.Add(blocks...); e != api.OK {
		return api.Link{}, e
	}
	return root, api.OK
}

// link gives each node below one its link, the deepest first.
func (t *tree) link(n *node[entry], lay func(*node[entry]) api.Link) {
	for i := range n.elements {
		x := &n.elements[i]
		if x.node != nil {
			t.link(x.node, lay)
			x.link = lay(x.node)
		}
	}
}
