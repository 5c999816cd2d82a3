package walk

import (
	"slices"

	"trellis/api"
	"trellis/read"
	"trellis/store"
	"trellis/trie"
)

// step tells the place to which a step leads from another one.
func step(s *store.Store, at api.Value, x api.Step) (api.Value, api.Errno) {
	if !isStep(x) {
		return api.Value{}, api.ErrWalkKind
	}
	switch x.Kind {
	case api.StepKey:
		return item(at, api.KindMap, slices.Index(at.Keys, x.Text))
	case api.StepPlace:
		return item(at, api.KindList, x.N)
	}
	if at.Kind != api.KindLink {
		return api.Value{}, api.ErrWalkStep
	}
	if x.Kind == api.StepEntry {
		return entry(s, at.Link, x.Key)
	}
	return behind(s, at.Link)
}

// isStep tells whether a step is of a kind that there is, and no field is set that the kind does not use.
func isStep(x api.Step) bool {
	text, n, key := x.Text != "", x.N != 0, len(x.Key) > 0
	switch x.Kind {
	case api.StepKey:
		return !n && !key
	case api.StepPlace:
		return !text && !key
	case api.StepEntry:
		return !text && !n
	case api.StepFollow:
		return !text && !n && !key
	}
	return false
}

// item tells the item at a place of what must be of a kind. It is not copied: the tree about it was read for this path alone, and is told to nobody else.
func item(of api.Value, kind, at int) (api.Value, api.Errno) {
	if of.Kind != kind || at < 0 || at >= len(of.Items) {
		return api.Value{}, api.ErrWalkStep
	}
	return of.Items[at], api.OK
}

// entry tells the value of a trie's key, which must be there.
func entry(s *store.Store, root api.Link, key []byte) (api.Value, api.Errno) {
	v, is, e := trie.Get(s, root, key)
	if e == api.OK && !is {
		return api.Value{}, api.ErrWalkStep
	}
	return v, e
}

// behind tells what stands behind a link.
func behind(s *store.Store, l api.Link) (api.Value, api.Errno) {
	b, e := s.Get(l)
	if e != api.OK {
		return api.Value{}, e
	}
	if isTree(l) {
		if v, f := read.Decode(b, api.MaxDepth); f.Code == api.OK {
			return v, api.OK
		}
	} else if l.Version == 1 && l.Codec == api.CodecRaw {
		return api.Value{Kind: api.KindBytes, Bytes: b}, api.OK
	}
	return api.Value{}, api.ErrWalkBlock
}

// isTree tells whether a link is one behind which a tree should stand, whatever its hash.
func isTree(l api.Link) bool { return l.Version == 1 && l.Codec == api.CodecTree }
