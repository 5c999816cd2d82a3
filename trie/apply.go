package trie

import (
	"slices"

	"trellis/api"
	"trellis/store"
)

// apply is Apply; it also tells how many of the keys were there to be taken out.
func apply(s *store.Store, root api.Link, gone [][]byte, l []api.Entry) (api.Link, int, api.Errno) {
	if e := fit(gone, l); e != api.OK {
		return api.Link{}, 0, e
	}
	t, e := open(s, root)
	if e != api.OK {
		return api.Link{}, 0, e
	}
	out, in := paths(gone, l)
	for _, y := range slices.Concat(out, in) {
		if _, _, e := t.fetch(y.path); e != api.OK {
			return api.Link{}, 0, e
		}
	}
	taken := 0
	for _, y := range out {
		if t.take(t.top, 0, y) {
			taken++
		}
	}
	for _, y := range in {
		if e := t.put(t.top, 0, y); e != api.OK {
			return api.Link{}, 0, e
		}
	}
	answer, e := t.add()
	if e != api.OK {
		return api.Link{}, 0, e
	}
	return answer, taken, api.OK
}

// fit tells what there is against keys and entries by themselves.
func fit(gone [][]byte, l []api.Entry) api.Errno {
	long := func(key []byte) bool { return !keyFits(key) }
	if slices.ContainsFunc(gone, long) || slices.ContainsFunc(l, func(y api.Entry) bool { return long(y.Key) }) {
		return api.ErrTrieKey
	}
	if slices.ContainsFunc(l, func(y api.Entry) bool { return !valueFits(y.Value) }) {
		return api.ErrTrieValue
	}
	return api.OK
}

// paths tells keys, and entries, with their paths.
func paths(gone [][]byte, l []api.Entry) (out, in []entry) {
	for _, key := range gone {
		out = append(out, entryOf(key, api.Value{}))
	}
	for _, y := range l {
		in = append(in, entryOf(y.Key, y.Value))
	}
	return out, in
}

// told tells a node's elements as the face does; none of no node.
func told(n *node[entry]) []api.Element {
	if n == nil {
		return nil
	}
	var all []api.Element
	for _, x := range n.elements {
		y := api.Element{Slice: x.slice, Below: x.link}
		for _, z := range x.bucket {
			y.Entries = append(y.Entries, z.told())
		}
		all = append(all, y)
	}
	return all
}
