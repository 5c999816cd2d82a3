package depot

import (
	"slices"

	"trellis/api"
)

// follow looks at links, in turn, and behind each one at all to which it leads, as look tells; at none twice. It ends with the first error. It goes by a list of what is left, not by recursion: blocks may name each other in long rows.
func follow(from []api.Link, look func(api.Link) ([]api.Link, api.Errno)) api.Errno {
	met := map[api.Link]struct{}{}
	left := upon(nil, from)
	for len(left) > 0 {
		last := len(left) - 1
		l := left[last]
		left = left[:last]
		if _, is := met[l]; is {
			continue
		}
		met[l] = struct{}{}
		to, e := look(l)
		if e != api.OK {
			return e
		}
		left = upon(left, to)
	}
	return api.OK
}

// upon lays links upon what is left, so that their first one is the next.
func upon(left, links []api.Link) []api.Link {
	for _, l := range slices.Backward(links) {
		left = append(left, l)
	}
	return left
}
