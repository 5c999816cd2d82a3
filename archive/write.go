package archive

import (
	"slices"
	"sort"

	"trellis/api"
	"trellis/lay"
	"trellis/link"
	"trellis/store"
	"trellis/varint"
	"trellis/walk"
)

// The keys of a head, in keys' order, and its version.
const (
	rootsKey   = "roots"
	versionKey = "version"
	version    = 1
)

// areRoots tells whether an archive can be made of these links: there is one or more, and under each a block can stand.
func areRoots(links []api.Link) bool {
	wrong := func(l api.Link) bool { return link.Check(l) != api.OK || l.Hash != api.HashSha }
	return len(links) > 0 && !slices.ContainsFunc(links, wrong)
}

// reached tells the links of all blocks that roots reach; none of them may be lacking.
func reached(s *store.Store, roots []api.Link) ([]api.Link, api.Errno) {
	there, lacking, e := walk.Reach(s, roots...)
	if e != api.OK {
		return nil, e
	}
	if len(lacking) == 0 {
		return there, api.OK
	}
	if _, e := s.Get(lacking[0]); e != api.OK {
		return nil, e
	}
	// The store has this block: it is lacking, because it is no tree.
	return nil, api.ErrWalkBlock
}

// inOrder tells links by link.Less, each once.
func inOrder(links []api.Link) []api.Link {
	list := slices.Clone(links)
	sort.Slice(list, func(i, j int) bool { return link.Less(list[i], list[j]) })
	return slices.Compact(list)
}

// headOf tells the form of the head of an archive with such roots, which may be and are in order.
func headOf(roots []api.Link) []byte {
	list := api.Value{Kind: api.KindList}
	for _, l := range roots {
		list.Items = append(list.Items, api.Value{Kind: api.KindLink, Link: l})
	}
	b, _ := lay.Encode(api.Value{
		Kind:  api.KindMap,
		Keys:  []string{rootsKey, versionKey},
		Items: []api.Value{list, {Kind: api.KindInt, N: version}},
	})
	return b
}

// file: the pieces of a file, one behind the other, and how many bytes they have together.
type file struct {
	pieces [][]byte
	size   int
}

// lay lays a part of the file, in pieces, with its length ahead.
func (f *file) lay(pieces ...[]byte) {
	length := 0
	for _, b := range pieces {
		length += len(b)
	}
	ahead, _ := varint.Lay(uint64(length))
	f.pieces = append(append(f.pieces, ahead), pieces...)
	f.size += len(ahead) + length
}

// joined tells the file's bytes.
func (f *file) joined() []byte {
	b := make([]byte, f.size)
	at := 0
	for _, piece := range f.pieces {
		at += copy(b[at:], piece)
	}
	return b
}
