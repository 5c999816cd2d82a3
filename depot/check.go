package depot

import (
	"trellis/api"
	"trellis/column"
	"trellis/store"
	"trellis/trie"
	"trellis/walk"
)

// sweep deletes all blocks that cannot be reached from some links; how many.
func sweep(s *store.Store, from []api.Link) (int, api.Errno) {
	there, lacking, e := walk.Reach(s, from...)
	if e != api.OK {
		return 0, e
	}
	for _, l := range lacking {
		if e := spoilt(s, l); e != api.OK {
			return 0, e
		}
	}
	kept := map[api.Link]struct{}{}
	for _, l := range there {
		kept[l] = struct{}{}
	}
	count := 0
	for _, l := range s.Links() {
		if _, is := kept[l]; !is {
			s.Delete(l)
			count++
		}
	}
	return count, api.OK
}

// spoilt tells why what stands under a link that is lacking is not its block; OK, if nothing stands there.
func spoilt(s *store.Store, l api.Link) api.Errno {
	if !s.Has(l) {
		return api.OK
	}
	if _, e := s.Get(l); e != api.OK {
		return e
	}
	// The store has this block: it is lacking, because it is no tree.
	return api.ErrWalkBlock
}

// checker: the tries and the columns that a Check has found right, so that what many commits hold is read once.
type checker struct {
	store          *store.Store
	tries, columns map[api.Link]struct{}
}

// checkPast reads all that commits hold.
func checkPast(s *store.Store, p past) api.Errno {
	c := checker{s, map[api.Link]struct{}{}, map[api.Link]struct{}{}}
	for _, l := range p.links {
		commit := p.commits[l]
		if commit.At != behind(commit.From, func(l api.Link) api.Commit { return p.commits[l] }) {
			return api.ErrDepotBlock
		}
		if e := once(c.tries, commit.Root, c.checkTrie); e != api.OK {
			return e
		}
	}
	return api.OK
}

// once checks what has not been found right yet.
func once(right map[api.Link]struct{}, l api.Link, check func(api.Link) api.Errno) api.Errno {
	if _, is := right[l]; is {
		return api.OK
	}
	e := check(l)
	if e == api.OK {
		right[l] = struct{}{}
	}
	return e
}

// checkTrie reads a trie, and the columns that its entries name.
func (c checker) checkTrie(root api.Link) api.Errno {
	if _, e := trie.Check(c.store, root); e != api.OK {
		return e
	}
	// All of it has just been read: no error comes.
	for x := range trie.All(c.store, root) {
		if x.Value.Kind != api.KindLink {
			continue
		}
		if e := once(c.columns, x.Value.Link, c.checkColumn); e != api.OK {
			return e
		}
	}
	return api.OK
}

// checkColumn reads a column; what is none is passed.
func (c checker) checkColumn(l api.Link) api.Errno {
	if _, e := column.Len(c.store, l); e != api.OK {
		return api.OK
	}
	_, e := column.Check(c.store, l)
	return e
}
