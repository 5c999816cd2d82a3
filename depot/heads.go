package depot

import (
	"maps"
	"slices"
	"unicode/utf8"

	"trellis/api"
)

// heads: names, each with the link of a commit.
type heads struct{ commits map[string]api.Link }

// names tells all names, in their order.
func (h heads) names() []string { return slices.Sorted(maps.Keys(h.commits)) }

// all tells the commits of all heads, by names.
func (h heads) all() []api.Link {
	var links []api.Link
	for _, name := range h.names() {
		links = append(links, h.commits[name])
	}
	return links
}

// find tells the commit of a head, and whether there is such a head.
func (h heads) find(name string) (api.Link, bool) {
	l, is := h.commits[name]
	return l, is
}

// isFull tells whether there is no room for another head.
func (h heads) isFull() bool { return len(h.commits) >= api.MaxHeads }

// mayCome tells why no head of that name can come from elsewhere.
func (h heads) mayCome(name string) api.Errno {
	if !isName(name) {
		return api.ErrDepotName
	}
	if _, is := h.find(name); is {
		return api.ErrDepotHead
	}
	if h.isFull() {
		return api.ErrDepotFull
	}
	return api.OK
}

// put makes a link a head's commit.
func (h heads) put(name string, l api.Link) { h.commits[name] = l }

// drop takes a head away.
func (h heads) drop(name string) { delete(h.commits, name) }

// again tells the same heads, in new memory.
func (h heads) again() heads { return heads{maps.Clone(h.commits)} }

// unlike tells the names that heads have in one row alone, or of unlike commits.
func unlike(a, b heads) []string {
	var names []string
	for _, name := range a.names() {
		if l, is := b.find(name); !is || l != a.commits[name] {
			names = append(names, name)
		}
	}
	for _, name := range b.names() {
		if _, is := a.find(name); !is {
			names = append(names, name)
		}
	}
	slices.Sort(names)
	return names
}

// isName and isNote tell whether a head's name, a commit's note may be.
func isName(s string) bool { return len(s) > 0 && len(s) <= api.MaxName && utf8.ValidString(s) }

func isNote(s string) bool { return len(s) <= api.MaxNote && utf8.ValidString(s) }
