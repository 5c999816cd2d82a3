package proof

import (
	"bytes"
	"slices"

	"trellis/api"
	"trellis/digest"
	"trellis/store"
	"trellis/trie"
)

// get tells a key's value as trie.Get does, but asks block for what the links on the key's path hold, one behind the other, from the root on.
func get(root api.Link, key []byte, block func(api.Link) ([]byte, api.Errno)) (api.Value, bool, api.Errno) {
	if len(key) > api.MaxKey {
		return api.Value{}, false, api.ErrTrieKey
	}
	w := way{sum: digest.Sum(key)}
	for l := root; ; {
		b, e := block(l)
		if e != api.OK {
			return api.Value{}, false, e
		}
		x, e := w.step(l, b)
		if e != api.OK {
			return api.Value{}, false, e
		}
		if x.Below == (api.Link{}) {
			v, is := find(x.Entries, key)
			return v, is, api.OK
		}
		l = x.Below
	}
}

// find tells a key's value among entries.
func find(entries []api.Entry, key []byte) (api.Value, bool) {
	at := slices.IndexFunc(entries, func(y api.Entry) bool { return bytes.Equal(y.Key, key) })
	if at < 0 {
		return api.Value{}, false
	}
	return entries[at].Value, true
}

// way: a key's path, as far as it has been gone: the key's digest, the widths of the trie, which its root tells, and the slices so far.
type way struct {
	sum    [32]byte
	widths api.Trie
	above  []int
}

// step goes on through the node that a link's block is; what it has for the key's slice is told: the zero element, if nothing.
func (w *way) step(l api.Link, b []byte) (api.Element, api.Errno) {
	n, e := w.node(l, b)
	if e != api.OK {
		return api.Element{}, e
	}
	slice := w.slice()
	w.above = append(w.above, slice)
	at := slices.IndexFunc(n, func(x api.Element) bool { return x.Slice == slice })
	if at < 0 {
		return api.Element{}, api.OK
	}
	return n[at], api.OK
}

// node tells the elements of the node that a link's block is, if it is right where the way has come to.
func (w *way) node(l api.Link, b []byte) ([]api.Element, api.Errno) {
	// Package trie reads nodes out of stores alone: so the block gets a store of its own.
	s, _ := store.New(1)
	if s.Force(l, b) != api.OK {
		// Nothing stands under such a link, or the block is longer than any that does: it is no node.
		return nil, api.ErrTrieNode
	}
	if len(w.above) == 0 {
		c, e := trie.Widths(s, l)
		if e != api.OK {
			return nil, e
		}
		w.widths = c
	}
	return trie.Node(s, w.widths, w.above, l)
}

// slice tells the key's slice at the level that the way has come to: bits of its digest, the first one the highest.
func (w *way) slice() int {
	n := 0
	from := len(w.above) * w.widths.Width
	for bit := from; bit < from+w.widths.Width; bit++ {
		n = n<<1 | int(w.sum[bit/8]>>(7-bit%8)&1)
	}
	return n
}
