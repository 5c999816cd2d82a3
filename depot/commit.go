package depot

import (
	"slices"

	"trellis/api"
	"trellis/archive"
	"trellis/lay"
	"trellis/read"
	"trellis/store"
)

// form tells the form of a commit.
func form(c api.Commit) []byte {
	from := api.Value{Kind: api.KindList}
	for _, l := range c.From {
		from.Items = append(from.Items, linked(l))
	}
	// What is handed in is a commit, whose map is a tree.
	b, _ := lay.Encode(api.Value{
		Kind: api.KindMap,
		Keys: keys(),
		Items: []api.Value{
			{Kind: api.KindInt, N: c.At},
			from,
			{Kind: api.KindText, Text: c.Note},
			linked(c.Root),
		},
	})
	return b
}

// keys: those of a commit's map, in keys' order.
func keys() []string { return []string{"at", "from", "note", "root"} }

// linked tells the tree of a link.
func linked(l api.Link) api.Value { return api.Value{Kind: api.KindLink, Link: l} }

// readCommit reads the commit of a link.
func readCommit(s *store.Store, l api.Link) (api.Commit, api.Errno) {
	b, e := s.Get(l)
	if e != api.OK {
		return api.Commit{}, e
	}
	c, is := commitOf(l, b)
	if !is {
		return api.Commit{}, api.ErrDepotBlock
	}
	return c, api.OK
}

// commitOf tells the commit that a link's block is, and whether it is one.
func commitOf(l api.Link, b []byte) (api.Commit, bool) {
	v := treeOf(l, b)
	// What is no tree or no map has no keys; a map that has been read has them in their order.
	if !slices.Equal(v.Keys, keys()) {
		return api.Commit{}, false
	}
	at, from, note, root := v.Items[0], v.Items[1], v.Items[2], v.Items[3]
	links, are := parents(from)
	if !isNumber(at) || !are || note.Kind != api.KindText || len(note.Text) > api.MaxNote || !isTreeLink(root) {
		return api.Commit{}, false
	}
	return api.Commit{At: at.N, From: links, Root: root.Link, Note: note.Text}, true
}

// treeOf tells the tree whose form a link's block is; the zero value, if it is none, or no tree is asked of it.
func treeOf(l api.Link, b []byte) api.Value {
	if l.Version != 1 || l.Codec != api.CodecTree {
		return api.Value{}
	}
	v, _ := read.Decode(b, api.MaxDepth)
	return v
}

// parents tells the links that a commit's list of them holds, and whether it may be one.
func parents(v api.Value) ([]api.Link, bool) {
	if v.Kind != api.KindList || len(v.Items) > api.MaxOps+1 {
		return nil, false
	}
	var links []api.Link
	for _, x := range v.Items {
		if !isTreeLink(x) || slices.Contains(links, x.Link) {
			return nil, false
		}
		links = append(links, x.Link)
	}
	return links, true
}

// isNumber tells whether a tree may be a commit's number.
func isNumber(v api.Value) bool {
	return v.Kind == api.KindInt && !v.Neg && v.N >= 1 && v.N <= api.MaxCommit
}

// isTreeLink tells whether a tree is the link of a tree block.
func isTreeLink(v api.Value) bool {
	l := v.Link
	return v.Kind == api.KindLink && l.Version == 1 && l.Codec == api.CodecTree && l.Hash == api.HashSha
}

// commitIn tells the one root of an archive, which is a commit.
func commitIn(b []byte) (api.Link, api.Fault) {
	a, f := archive.Read(b)
	if f.Code != api.OK {
		return api.Link{}, f
	}
	for _, x := range a.Blocks {
		if len(a.Roots) != 1 || x.Link != a.Roots[0] {
			continue
		}
		if _, is := commitOf(x.Link, x.Bytes); is {
			return x.Link, api.Fault{}
		}
	}
	return api.Link{}, api.Fault{Code: api.ErrDepotBlock}
}
