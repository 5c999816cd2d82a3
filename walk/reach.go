package walk

import (
	"sort"

	"trellis/api"
	"trellis/link"
	"trellis/store"
	"trellis/value"
)

// walker: a walk as far as it has come. It goes by a list of what is left, not by recursion: blocks may name each other in long rows.
type walker struct {
	store *store.Store
	met   map[api.Link]struct{} // all links that the walk has come to
	left  []api.Link            // those of them whose blocks have not been looked at
	count int                   // how many of those that have been met are told in the end

	there, lacking []api.Link
}

// walk goes from roots on to all that can be reached.
func (w *walker) walk(roots ...api.Link) api.Errno {
	w.come(roots...)
	for len(w.left) > 0 {
		if w.count > api.MaxReach {
			return api.ErrWalkFull
		}
		last := len(w.left) - 1
		l := w.left[last]
		w.left = w.left[:last]
		w.look(l)
	}
	return api.OK
}

// come comes to links; to those that have been met nothing happens.
func (w *walker) come(links ...api.Link) {
	for _, l := range links {
		if _, is := w.met[l]; is {
			continue
		}
		w.met[l] = struct{}{}
		w.left = append(w.left, l)
		if isTold(l) {
			w.count++
		}
	}
}

// look looks at a link's block: whether it is there, and to which links it leads.
func (w *walker) look(l api.Link) {
	v, e := behind(w.store, l)
	// A block of which no tree is asked is there, even if no path leads on behind it.
	there := e == api.OK || e == api.ErrWalkBlock && !isTree(l)
	switch {
	case !isTold(l):
	case there:
		w.there = append(w.there, l)
	default:
		w.lacking = append(w.lacking, l)
	}
	w.come(value.Links(v)...)
}

// isTold tells whether a link is told where it can be reached: what holds its bytes itself is never lacking.
func isTold(l api.Link) bool { return l.Hash == api.HashSha }

// inOrder tells links in their order.
func inOrder(links []api.Link) []api.Link {
	sort.Slice(links, func(i, j int) bool { return link.Less(links[i], links[j]) })
	return links
}
