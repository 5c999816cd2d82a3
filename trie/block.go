package trie

import (
	"trellis/api"
	"trellis/lay"
	"trellis/link"
	"trellis/read"
	"trellis/store"
)

// rootWord is the text with which a root begins.
const rootWord = "trie"

// isTree tells whether a link is a tree block's.
func isTree(l api.Link) bool {
	return l.Version == 1 && l.Codec == api.CodecTree && l.Hash == api.HashSha
}

// readList tells the items of the list that a tree block is.
func readList(s *store.Store, l api.Link) ([]api.Value, api.Errno) {
	b, e := s.Get(l)
	if e != api.OK {
		return nil, e
	}
	if !isTree(l) {
		return nil, api.ErrTrieNode
	}
	v, f := read.Decode(b, api.MaxDepth)
	if f.Code != api.OK || v.Kind != api.KindList {
		return nil, api.ErrTrieNode
	}
	return v.Items, api.OK
}

// readRoot tells a root's widths and its node.
func readRoot(s *store.Store, root api.Link) (api.Trie, *node[entry], api.Errno) {
	items, e := readList(s, root)
	if e != api.OK {
		return api.Trie{}, nil, e
	}
	c, ok := widthsIn(items)
	if !ok {
		return api.Trie{}, nil, api.ErrTrieNode
	}
	n, ok := nodeIn(place{widths: c}, items[4:])
	if !ok {
		return api.Trie{}, nil, api.ErrTrieNode
	}
	return c, n, api.OK
}

// readNode tells the node below the top that stands at a place.
func readNode(s *store.Store, p place, l api.Link) (*node[entry], api.Errno) {
	items, e := readList(s, l)
	if e != api.OK {
		return nil, e
	}
	n, ok := nodeIn(p, items)
	if !ok {
		return nil, api.ErrTrieNode
	}
	return n, api.OK
}

// widthsIn tells the widths of a root's list of six.
func widthsIn(items []api.Value) (api.Trie, bool) {
	if len(items) != 6 || items[0].Kind != api.KindText || items[0].Text != rootWord {
		return api.Trie{}, false
	}
	for _, v := range items[1:4] {
		// The greatest width of all is asked ahead of the conversion to int.
		if v.Kind != api.KindInt || v.Neg || v.N > api.MaxBytes {
			return api.Trie{}, false
		}
	}
	c := api.Trie{Width: int(items[1].N), Bucket: int(items[2].N), Bytes: int(items[3].N)}
	return c, mayBe(c)
}

// nodeIn tells the node that bits and a list of elements make at a place, if it is right there.
func nodeIn(p place, items []api.Value) (*node[entry], bool) {
	if len(items) != 2 || items[1].Kind != api.KindList {
		return nil, false
	}
	marked, ok := slicesIn(p.widths, items[0])
	elements := items[1].Items
	if !ok || len(marked) != len(elements) || len(marked) == 0 && !p.isTop() {
		return nil, false
	}
	n := &node[entry]{}
	for i, slice := range marked {
		x, ok := elementIn(p, slice, elements[i])
		if !ok {
			return nil, false
		}
		n.elements = append(n.elements, x)
	}
	return n, true
}

// slicesIn tells the slices whose bits are set.
func slicesIn(c api.Trie, bits api.Value) ([]int, bool) {
	if bits.Kind != api.KindBytes || len(bits.Bytes) != bitBytes(c) {
		return nil, false
	}
	var marked []int
	for i := range 8 * len(bits.Bytes) {
		if bits.Bytes[i/8]>>(i%8)&1 == 1 {
			marked = append(marked, i)
		}
	}
	// One byte has more bits than a Width of 1 or 2 has slices.
	return marked, len(marked) == 0 || marked[len(marked)-1] < fanOut(c)
}

// bitBytes tells how many bytes a node's bits have.
func bitBytes(c api.Trie) int { return max(fanOut(c)/8, 1) }

// elementIn tells a node's element of a slice, if it is right there.
func elementIn(p place, slice int, v api.Value) (element[entry], bool) {
	switch v.Kind {
	case api.KindLink:
		return element[entry]{slice: slice, link: v.Link}, isTree(v.Link) && !p.isLast()
	case api.KindList:
		bucket, ok := bucketIn(p, slice, v.Items)
		return element[entry]{slice: slice, bucket: bucket}, ok
	}
	return element[entry]{}, false
}

// bucketIn tells the entries of a slice's bucket, if they are right there.
func bucketIn(p place, slice int, items []api.Value) ([]entry, bool) {
	if len(items) == 0 || len(items) > p.widths.Bucket {
		return nil, false
	}
	var bucket []entry
	for i, v := range items {
		if v.Kind != api.KindList || len(v.Items) != 2 || v.Items[0].Kind != api.KindBytes {
			return nil, false
		}
		key, item := v.Items[0].Bytes, v.Items[1]
		if !keyFits(key) || !valueFits(item) {
			return nil, false
		}
		bucket = append(bucket, entryOf(key, item))
		if i > 0 && byKey(bucket[i-1], bucket[i]) >= 0 || !p.takes(bucket[i].path, slice) {
			return nil, false
		}
	}
	return bucket, true
}

// rootForm tells the items of a root's list of six.
func rootForm(c api.Trie, n *node[entry]) []api.Value {
	head := []api.Value{{Kind: api.KindText, Text: rootWord}, whole(c.Width), whole(c.Bucket), whole(c.Bytes)}
	return append(head, nodeForm(c, n)...)
}

// nodeForm tells a node's bits and the list of its elements; each node in its place has its link already.
func nodeForm(c api.Trie, n *node[entry]) []api.Value {
	bits := make([]byte, bitBytes(c))
	var elements []api.Value
	for _, x := range n.elements {
		bits[x.slice/8] |= 1 << (x.slice % 8)
		elements = append(elements, elementForm(x))
	}
	return []api.Value{{Kind: api.KindBytes, Bytes: bits}, list(elements...)}
}

// elementForm tells the tree of an element.
func elementForm(x element[entry]) api.Value {
	if !x.isBucket() {
		return api.Value{Kind: api.KindLink, Link: x.link}
	}
	var items []api.Value
	for _, y := range x.bucket {
		items = append(items, list(api.Value{Kind: api.KindBytes, Bytes: y.key}, y.value))
	}
	return list(items...)
}

func whole(n int) api.Value { return api.Value{Kind: api.KindInt, N: uint64(n)} }

func list(items ...api.Value) api.Value { return api.Value{Kind: api.KindList, Items: items} }

// blockOf tells the tree block of a list. It is not asked for errors: what is laid has been looked at, value by value, and is not too deep.
func blockOf(items []api.Value) api.Block {
	b, _ := lay.Encode(list(items...))
	l, _ := link.Of(api.CodecTree, b)
	return api.Block{Link: l, Bytes: b}
}
