package depot

import (
	"trellis/api"
	"trellis/link"
	"trellis/store"
)

// past: commits that have been read, and in which order.
type past struct {
	links   []api.Link
	commits map[api.Link]api.Commit
}

// ancestors reads the commits of links, and of all that they follow.
func ancestors(s *store.Store, of ...api.Link) (past, api.Errno) {
	p := past{commits: map[api.Link]api.Commit{}}
	e := follow(of, func(l api.Link) ([]api.Link, api.Errno) {
		c, e := readCommit(s, l)
		p.links = append(p.links, l)
		p.commits[l] = c
		return c.From, e
	})
	if e != api.OK {
		return past{}, e
	}
	return p, api.OK
}

// has tells whether a link's commit is among them.
func (p past) has(l api.Link) bool {
	_, is := p.commits[l]
	return is
}

// shared tells the newest commit that two pasts have both, and whether there is one; of several the one of the least link.
func (p past) shared(other past) (newest api.Commit, is bool) {
	var at api.Link
	for _, l := range p.links {
		c := p.commits[l]
		if !other.has(l) {
			continue
		}
		if !is || c.At > newest.At || c.At == newest.At && link.Less(l, at) {
			at, newest, is = l, c, true
		}
	}
	return newest, is
}

// behind tells the number of a commit that follows others: one above the greatest of theirs.
func behind(others []api.Link, read func(api.Link) api.Commit) uint64 {
	greatest := uint64(0)
	for _, l := range others {
		greatest = max(greatest, read(l).At)
	}
	return greatest + 1
}
